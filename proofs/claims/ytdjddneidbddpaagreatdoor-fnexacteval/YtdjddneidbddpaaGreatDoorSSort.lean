import Derived.Test.YtdjddneidbddpaaGreatDoorPsZ
import Derived.Test.YtdjddneidbddpaaGreatDoorEqS2
import Derived.Test.YtdjddneidbddpaaGreatDoorLowN
import Derived.Test.YtdjddneidbddpaaGreatDoorProg
import Derived.Deep.QuietTactic
import Derived.BigQuiet
import Derived.WalkSmall
import Derived.Test.YtdjddneidbddpaaGreatDoorByP
import Derived.Test.YtdjddneidbddpaaGreatDoorSpc3
namespace Go.Proofs.YtdjddneidbddpaaGreatDoor
set_option linter.unusedSectionVars false
set_option maxHeartbeats 6400000
open Go.RowKit
set_option linter.unusedSimpArgs false
set_option linter.unusedVariables false
def Zn (x:VN):Option Int:=
 if x.kind=1 then some 0
 else if x.kind=3 then some (max x.n (-x.n))
 else if x.kind=4 then some (x.s.size:Int)
 else if x.kind=5∨x.kind=6 then some (x.kids.length:Int)
 else none
def Xd (vs:List VN):VN:=Xb vs (vs.length-1)
def Xm0 (o:Option Int):List VN:=match o with
 |some n=>Xu 3 n ByteArray.empty
 |none=> []
def Xiy (o:Option Int):Int:=match o with
 |some _=>0
 |none=>2
def G9 (vs:List VN):List VN:=if okB vs=true then Xm0 (Zn (Xd vs)) else []
def Xa9 (vs:List VN):Int:=if okB vs=true then Xiy (Zn (Xd vs)) else 1
theorem Xea (n:Int) (h1: -9223372036854775808≤n) (h2:n≤9223372036854775807):Few (Xu 3 n ByteArray.empty)∧∀i,i<(Xu 3 n ByteArray.empty).length→Fits (Xb (Xu 3 n ByteArray.empty) i):=by
 have h0:∀i,i<(Xu 3 n ByteArray.empty).length→i=0:=fun i hi=>by simp[Xu] at hi;omega
 refine ⟨⟨by simp[Xu],fun i hi=> ?_⟩,fun i hi=> ?_⟩
 ·obtain rfl:=h0 i hi
  exact ⟨by simp[Xu,Xb],by simp[Xu,Xb]⟩
 ·obtain rfl:=h0 i hi
  refine ⟨by simp[Xu,Xb],fun i hi=>absurd hi (by simp[Xu,Xb]),by simp[Xu,Xb],fun i hi=>absurd hi (by simp[Xu,Xb]),by simp[Xu,Xb],by simp[Xu,Xb],by simp[Xu,Xb],by simpa [Xu,Xb] using h1,by simpa [Xu,Xb] using h2⟩
theorem J3 {vs:List VN} (hok:okB vs=true):(Xd vs).kind=1∨(Xd vs).kind=2∨((Xd vs).kind=3∧-1000000000000000≤(Xd vs).n∧(Xd vs).n≤1000000000000000)∨((Xd vs).kind=4∧(Xd vs).s.size≤60)∨((Xd vs).kind=5∧(Xd vs).kids.length≤80)∨((Xd vs).kind=6∧(Xd vs).kids.length≤80):=by
 obtain ⟨p1,p2,_,p4⟩:=Xp hok
 have hn:=(p2 (vs.length-1) (by omega)).1
 have hk:=p4 (vs.length-1) (by omega)
 have hk':(Xd vs).kids.length≤80:=by unfold Xd;omega
 change X9 (Xd vs)=true at hn
 unfold X9 Zk at hn
 simp only[Bool.and_eq_true] at hn
 have h2:=hn.2
 by_cases k1:(Xd vs).kind=1
 ·exact Or.inl k1
 by_cases k2:(Xd vs).kind=2
 ·exact Or.inr (Or.inl k2)
 by_cases k3:(Xd vs).kind=3
 ·simp[k3] at h2;exact Or.inr (Or.inr (Or.inl ⟨k3,by omega,by omega⟩))
 by_cases k4:(Xd vs).kind=4
 ·simp[k4,Z7] at h2;exact Or.inr (Or.inr (Or.inr (Or.inl ⟨k4,h2.1⟩)))
 by_cases k5:(Xd vs).kind=5
 ·exact Or.inr (Or.inr (Or.inr (Or.inr (Or.inl ⟨k5,hk'⟩))))
 by_cases k6:(Xd vs).kind=6
 ·exact Or.inr (Or.inr (Or.inr (Or.inr (Or.inr ⟨k6,hk'⟩))))
 simp[k1,k2,k3,k4,k5,k6] at h2
theorem Xlk {vs:List VN} (hok:okB vs=true) {n:Int} (h:Zn (Xd vs)=some n):0≤n∧n≤1000000000000000:=by
 unfold Zn at h
 rcases J3 hok with k|k|⟨k,a,b⟩|⟨k,a⟩|⟨k,a⟩|⟨k,a⟩<;>simp[k] at h<;>omega

theorem Xbs {s N k:Nat} {w W0 W:World} {vs:List VN} {VV:Nat→Value} {u:Value} (hrow:W.rowIs s 52 N (Xai VV k)) (hall:∀j,j<k→ValIs s W0.heap.size W0 vs (j+1) j (VV j)) (hk:Keep s W0.heap.size W0 W) (hsz:W0.heap.size≤W.heap.size) (hs:s<W0.heap.size) (hb:Below s w W)
  (hv:ValIs s W.heap.size W vs (k+1) k u):
  (W.setCell ⟨s,k,none⟩ u).rowIs s 52 N (Xai (fun j=>if j=k then u else VV j) (k+1))∧(∀j,j<k+1→ValIs s (W.setCell ⟨s,k,none⟩ u).heap.size (W.setCell ⟨s,k,none⟩ u) vs (j+1) j (if j=k then u else VV j))∧Below s w (W.setCell ⟨s,k,none⟩ u):=by
 have hsz2:(W.setCell ⟨s,k,none⟩ u).heap.size=W.heap.size:=World.size_setCell _ _ _
 refine ⟨Xux hrow,fun j hj=> ?_,hb.setCell (Nat.le_refl _) _⟩
 by_cases e:j=k
 ·subst e
  rw[if_pos rfl]
  exact ValIs.keep (Keep.setCell W u) (by omega) (by omega) hv
 ·rw[if_neg e]
  exact ValIs.keep (hk.trans (Keep.setCell W u)) (by omega) (by omega) (hall j (by omega))
set_option maxRecDepth 100000 in
theorem Xf0 (B:Nat) (v:Value) (vs:List VN) (w:World) (h:NodesAt B w v vs) (hB:B≤w.heap.size) (hn1:1≤vs.length) (hn80:vs.length≤80) (hok:∀k,k<vs.length→X9 (Xb vs k)=true∧Z8 vs k=true) (hkn:∀k,k<vs.length→(Xb vs k).kids.length≤k):
  Calls Tryz.prog 59 #[v] w fun e w'=>∃VV:Nat→Value,e= .returned (.slice (some ⟨w.heap.size,0,none⟩) vs.length vs.length)∧
   w'.rowIs w.heap.size 52 vs.length VV∧(∀j,j<vs.length→ValIs w.heap.size w'.heap.size w' vs (j+1) j (VV j))∧Below w.heap.size w w':=by
 obtain ⟨hlen,a,cap,rfl,hcell⟩:=h
 obtain ⟨b0,o0,rfl,hb0,hc⟩:=hcell (by omega)
 clear hcell
 have HOK:=Xa hok
 have HC:=Xa hc
 clear hok hc
 have hmk:=run_make_row' (P:=Tryz.prog) 58 52 .nilIface 16 Tryz.underlying58 Xbr rfl .i64 .i64 vs.length (by omega) (by omega)
 obtain ⟨i0,hi,hz0,hz1,hz2⟩:=info_parts Xbr
 go_enter Tryz.func59,Tryz.ntmps59
 go_wp2_with fail
 clear hmk
 have hr0:(w.alloc (.cells (madeCells #[Value.nilIface] vs.length) 52)).rowIs w.heap.size 52 vs.length (Xai (fun _=>undef) 0):=(World.rowIs_made w _ _ _).congr fun i _=>by simp[Xai]
 have hbz:Below w.heap.size w (w.alloc (.cells (madeCells #[Value.nilIface] vs.length) 52)):=(Below.refl _ _).alloc (Nat.le_refl _) _
 go_loopw [14] (fun i wr=>∃(k:Nat) (VV:Nat→Value),k≤vs.length∧i= .int .i64 k∧wr.rowIs w.heap.size 52 vs.length (Xai VV k)∧(∀j,j<k→ValIs w.heap.size wr.heap.size wr vs (j+1) j (VV j))∧Below w.heap.size w wr) (fun i _=>vs.length-(intOf i).toNat)
 case atStart=>exact ⟨0,_,Nat.zero_le _,rfl,hr0,fun j hj=>by omega,hbz⟩
 case round =>
  obtain ⟨k,VV,hk,rfl,hrow,hall,hbel⟩:=hrel
  obtain ⟨W0,rfl⟩:∃W0,W0=wr:=⟨_,rfl⟩
  have HA:=Xa hall
  clear hall hr0 hbz
  by_cases hlt:k<vs.length
  ·obtain ⟨ka,ki,hn⟩:=HC.out k hlt
   have hn':=hn.below (hbel.mono hB) hb0
   have c0:=hn'.c0
   have c1:=hn'.c1
   have c2:=hn'.c2
   have c3:=hn'.c3
   have c4:=hn'.c4
   have hsize:=hbel.size
   have hlt0:=hrow.lt
   have HK:=Xa hn.inn.keys
   obtain ⟨_,_,aK,cK,eK,_⟩:=hn'.inn.keys
   obtain ⟨hkl,hkb,aI,cI,eI,hkc⟩:=hn'.inn.kids
   subst eK eI
   have HR:=Xa hrow
   clear hn hn' hrow
   go_wp2_with fail
   have x0:(W0.alloc (.cells #[.int .i64 (Xb vs k).kind, .int .i64 (Xb vs k).n, .string (Xb vs k).s, .slice aK (Xb vs k).keys.length cK, .slice aI (Xb vs k).kids.length cI] 75)).cell? ⟨W0.heap.size,0,none⟩=some (.int .i64 (Xb vs k).kind):=by simp
   have x1:(W0.alloc (.cells #[.int .i64 (Xb vs k).kind, .int .i64 (Xb vs k).n, .string (Xb vs k).s, .slice aK (Xb vs k).keys.length cK, .slice aI (Xb vs k).kids.length cI] 75)).cell? ⟨W0.heap.size,1,none⟩=some (.int .i64 (Xb vs k).n):=by simp
   have x2:(W0.alloc (.cells #[.int .i64 (Xb vs k).kind, .int .i64 (Xb vs k).n, .string (Xb vs k).s, .slice aK (Xb vs k).keys.length cK, .slice aI (Xb vs k).kids.length cI] 75)).cell? ⟨W0.heap.size,2,none⟩=some (.string (Xb vs k).s):=by simp
   have x3:(W0.alloc (.cells #[.int .i64 (Xb vs k).kind, .int .i64 (Xb vs k).n, .string (Xb vs k).s, .slice aK (Xb vs k).keys.length cK, .slice aI (Xb vs k).kids.length cI] 75)).cell? ⟨W0.heap.size,3,none⟩=some (.slice aK (Xb vs k).keys.length cK):=by simp
   have sW1:(W0.alloc (.cells #[.int .i64 (Xb vs k).kind, .int .i64 (Xb vs k).n, .string (Xb vs k).s, .slice aK (Xb vs k).keys.length cK, .slice aI (Xb vs k).kids.length cI] 75)).heap.size=W0.heap.size+1:=by simp
   have bW1:Below W0.heap.size W0 (W0.alloc (.cells #[.int .i64 (Xb vs k).kind, .int .i64 (Xb vs k).n, .string (Xb vs k).s, .slice aK (Xb vs k).keys.length cK, .slice aI (Xb vs k).kids.length cI] 75)):=(Below.refl _ _).alloc (Nat.le_refl _) _
   have rW1:=Xa (HR.out.alloc (.cells #[.int .i64 (Xb vs k).kind, .int .i64 (Xb vs k).n, .string (Xb vs k).s, .slice aK (Xb vs k).keys.length cK, .slice aI (Xb vs k).kids.length cI] 75))
   generalize (W0.alloc (.cells #[.int .i64 (Xb vs k).kind, .int .i64 (Xb vs k).n, .string (Xb vs k).s, .slice aK (Xb vs k).keys.length cK, .slice aI (Xb vs k).kids.length cI] 75))=W1 at *
   have HsW:=Xa sW1
   have hW1gt:W0.heap.size<W1.heap.size:=by omega
   have HX:=Xa (And.intro x0 (And.intro x1 (And.intro x2 x3)))
   have hsub:Below w.heap.size w W1:=hbel.trans (bW1.mono hsize)
   clear sW1 x0 x1 x2 x3 c0 c1 c2 c3 c4
   go_loopw [6,22] (fun it i wr=>∃c:Nat,c≤(Xb vs k).kids.length∧i= .int .i64 c∧wr.ownsRow W1.heap.size 52 1 it c ((List.range c).map fun j=>VV (Xm (Xb vs k).kids j).toNat)∧Below W1.heap.size W1 wr) (fun _ i _=>(Xb vs k).kids.length-(intOf i).toNat)
   case atStart=>exact ⟨0,Nat.zero_le _,rfl,World.ownsRow_nil _ _ _ _,Below.refl _ _⟩
   case round=>
    obtain ⟨c,hcl,rfl,hown,hb2⟩:=hrel
    by_cases hcc:c<(Xb vs k).kids.length
    ·obtain ⟨b1,o1,rfl,hb1',hkc1⟩:=hkc (by omega)
     have hkr:=Zx (HOK.out k hlt).2 hcc
     obtain ⟨q,hq⟩:∃q:Nat,Xm (Xb vs k).kids c=(q:Int):=⟨(Xm (Xb vs k).kids c).toNat,by omega⟩
     have hqk:q<k:=by omega
     have hck:wr.cell? ⟨b1,o1+c,none⟩=some (.int .i64 (q:Int)):=by
      rw[←hq];exact (Xc hb2 (by omega)).trans ((Xc bW1 (by omega)).trans (hkc1 c hcc))
     obtain ⟨tq,xq,hvq⟩:=(HA.out q hqk).iface
     have hcq:wr.cell? ⟨w.heap.size,q,none⟩=some (.iface tq xq):=by
      refine (Xc hb2 (by omega)).trans ?_
      rw[rW1.out.cell (by omega),Xai,if_pos hqk,hvq]
     have hqN:(q:Int)<(vs.length:Int):=by omega
     have HQ:Hid ((List.range (c+1)).map (fun j=>VV (Xm (Xb vs k).kids j).toNat)=(List.range c).map (fun j=>VV (Xm (Xb vs k).kids j).toNat)++ [.iface tq xq]):=by
      rw[Hid,List.range_succ,List.map_append]
      simp[hq,hvq]
     have hb2s:=hb2.size
     have HB2:=Xa hb2
     have h80:(Xb vs k).kids.length≤80:=by have:=hkn k hlt;omega
     clear hkc hkc1 hq hkr hvq
     go_wp2_with (at_builtin;refine wpList_append_own _ rfl _ _ 58 rfl W1.heap.size 52 i0 .nilIface 1 16 Tryz.underlying58 hi hz0 hz1 hz2 rfl (by decide) _ _ _ rfl (hown.alloc _) ⟨wr.heap.size,0,none⟩ 1 1 [.iface tq xq] rfl rfl ?c1 ?c2 ?c3 ?c4 ?c5 ?_)
     case c1=>
      intro j u hj
      match j,hj with
      |0,hj=>simp at hj;subst hj;simp[Addr.add]
     case c2=>intro u hu;simp at hu;subst hu;rfl
     case c3=>unfold maxLen;omega
     case c4=>omega
     case c5=>simp;omega
     intro v' w3 hown' hgrow _
     have hb3:Below W1.heap.size W1 w3:=(HB2.out.alloc hb2s _).grown hgrow (by simp;omega) (fun r hr=>by
      rcases hown.2 with ⟨rfl,_⟩|⟨g,cp,cu,rfl,hbg,_⟩
      ·simp[Value.ownBlock] at hr
      ·simp[Value.ownBlock] at hr;omega)
     rw[←HQ.out] at hown'
     clear hgrow hown
     go_wp2_with fail
     go_roundw
     case rel=>exact ⟨c+1,by omega,by go_num,hown',hb3⟩
     case measure=>simp[intOf];omega
    ·obtain rfl:c=(Xb vs k).kids.length:=by omega
     have hb2s:=hb2.size
     have hIt:=Xa (Xo3 (lo:=w.heap.size) (P:=fun j u=>ValIs w.heap.size wr.heap.size wr vs k (Xm (Xb vs k).kids j).toNat u) hown (by omega) (fun j hj=>by
      have hkr:=Zx (HOK.out k hlt).2 hj
      obtain ⟨t,x,e⟩:=(HA.out (Xm (Xb vs k).kids j).toNat (by omega)).iface
      refine ⟨t,x,e, ?_⟩
      rw[←e]
      exact ValIs.more (by omega) (ValIs.keep ((Keep.of_below (bW1)).trans (Keep.of_below (hb2.mono (by omega)))) (by omega) (by omega) (HA.out _ (by omega)))))
     have hitv:=hIt.out
     obtain ⟨ait,cpt,rfl,_⟩:=hitv
     have y0:wr.cell? ⟨W0.heap.size,0,none⟩=some (.int .i64 (Xb vs k).kind):=(Xc hb2 (by omega)).trans HX.out.1
     have y1:wr.cell? ⟨W0.heap.size,1,none⟩=some (.int .i64 (Xb vs k).n):=(Xc hb2 (by omega)).trans HX.out.2.1
     have y2:wr.cell? ⟨W0.heap.size,2,none⟩=some (.string (Xb vs k).s):=(Xc hb2 (by omega)).trans HX.out.2.2.1
     have y3:wr.cell? ⟨W0.heap.size,3,none⟩=some (.slice aK (Xb vs k).keys.length cK):=(Xc hb2 (by omega)).trans HX.out.2.2.2
     have rwr:=Y3 rW1.out hb2 (by omega)
     have z0:=rwr.cell hlt
     have z1:=rwr.frozen k
     have HRW:=Xa rwr
     have HKE:Hid (Keep w.heap.size W0.heap.size W0 wr):=(Keep.of_below (bW1)).trans (Keep.of_below (hb2.mono (by omega)))
     have HBE:Hid (Below w.heap.size w wr):=hsub.trans (hb2.mono (by omega))
     have hszz:W0.heap.size≤wr.heap.size:=by omega
     have HKY:Hid (StrsAt w.heap.size wr (.slice aK (Xb vs k).keys.length cK) (Xb vs k).keys):=(HK.out.wide hB).below HBE.out
     have HNB:=Xa (HOK.out k hlt).1
     clear hown rwr
     by_cases g2:(Xb vs k).kind=2
     ·have S:=Xbs (u:= .iface 113 (.agg #[.int .i64 (Xb vs k).n])) HRW.out HA.out HKE.out hszz hlt0 HBE.out (Or.inr (Or.inl ⟨g2,rfl⟩))
      have HS:=Xa S
      clear S
      go_wp2_with fail
      go_roundw
      case rel=>exact ⟨k+1,_,by omega,by go_num,HS.out.1,HS.out.2.1,HS.out.2.2⟩
      case measure=>simp[intOf];omega
     by_cases g3:(Xb vs k).kind=3
     ·have S:=Xbs (u:= .iface 114 (.agg #[.int .i64 (Xb vs k).n])) HRW.out HA.out HKE.out hszz hlt0 HBE.out (Or.inr (Or.inr (Or.inl ⟨g3,rfl⟩)))
      have HS:=Xa S
      clear S g2
      go_wp2_with fail
      go_roundw
      case rel=>exact ⟨k+1,_,by omega,by go_num,HS.out.1,HS.out.2.1,HS.out.2.2⟩
      case measure=>simp[intOf];omega
     by_cases g4:(Xb vs k).kind=4
     ·have S:=Xbs (u:= .iface 116 (.agg #[.string (Xb vs k).s])) HRW.out HA.out HKE.out hszz hlt0 HBE.out (Or.inr (Or.inr (Or.inr (Or.inl ⟨g4,rfl⟩))))
      have HS:=Xa S
      clear S g2 g3
      go_wp2_with fail
      go_roundw
      case rel=>exact ⟨k+1,_,by omega,by go_num,HS.out.1,HS.out.2.1,HS.out.2.2⟩
      case measure=>simp[intOf];omega
     by_cases g5:(Xb vs k).kind=5
     ·have S:=Xbs (u:= .iface 158 (.agg #[.slice ait (Xb vs k).kids.length cpt])) HRW.out HA.out HKE.out hszz hlt0 HBE.out (Or.inr (Or.inr (Or.inr (Or.inr (Or.inl ⟨g5,_,rfl,hIt.out⟩)))))
      have HS:=Xa S
      clear S g2 g3 g4
      go_wp2_with fail
      go_roundw
      case rel=>exact ⟨k+1,_,by omega,by go_num,HS.out.1,HS.out.2.1,HS.out.2.2⟩
      case measure=>simp[intOf];omega
     by_cases g6:(Xb vs k).kind=6
     ·have S:=Xbs (u:= .iface 118 (.agg #[.slice aK (Xb vs k).keys.length cK, .slice ait (Xb vs k).kids.length cpt])) HRW.out HA.out HKE.out hszz hlt0 HBE.out (Or.inr (Or.inr (Or.inr (Or.inr (Or.inr ⟨g6,_,_,rfl,HKY.out,hIt.out⟩)))))
      have HS:=Xa S
      clear S g2 g3 g4 g5
      go_wp2_with fail
      go_roundw
      case rel=>exact ⟨k+1,_,by omega,by go_num,HS.out.1,HS.out.2.1,HS.out.2.2⟩
      case measure=>simp[intOf];omega
     ·have g1:(Xb vs k).kind=1:=by
       have:=HNB.out
       unfold X9 Zk at this
       by_cases e1:(Xb vs k).kind=1
       ·exact e1
       ·simp[e1,g2,g3,g4,g5,g6] at this
      have S:=Xbs (u:= .iface 160 (.agg #[])) HRW.out HA.out HKE.out hszz hlt0 HBE.out (Or.inl ⟨g1,rfl⟩)
      have HS:=Xa S
      clear S g2 g3 g4 g5 g6
      go_wp2_with fail
      go_roundw
      case rel=>exact ⟨k+1,_,by omega,by go_num,HS.out.1,HS.out.2.1,HS.out.2.2⟩
      case measure=>simp[intOf];omega
  ·obtain rfl:k=vs.length:=by omega
   go_wp2_with fail
   go_ret
   exact ⟨VV,rfl,hrow.congr fun i hi=>by simp[Xai,hi],HA.out,hbel⟩

def Ze (ks:List ByteArray):Nat→Option (List ByteArray×List Nat)
 |0=>some ([],[])
 | i + 1 => match Ze ks i with
  |none=>none
  |some (ns,ps)=>if Y5 ns (Xh ks i)=true then none else some (ns.take (Z4 ns (Xh ks i))++ [Xh ks i]++ns.drop (Z4 ns (Xh ks i)),ps.take (Z4 ns (Xh ks i))++ [i]++ps.drop (Z4 ns (Xh ks i)))
theorem Gr {ks:List ByteArray}:∀{i:Nat} {ns:List ByteArray} {ps:List Nat},Ze ks i=some (ns,ps)→ns.length=i∧ps.length=i:=by
 intro i
 induction i with
 |zero=>intro ns ps h;simp[Ze] at h;obtain ⟨rfl,rfl⟩:=h;exact ⟨rfl,rfl⟩
 | succ i ih =>
  intro ns ps h
  rw[Ze] at h
  split at h
  ·cases h
  ·rename_i ns0 ps0 h0
   obtain ⟨h1,h2⟩:=ih h0
   split at h
   ·cases h
   ·injection h with h
    injection h with e1 e2
    subst e1 e2
    have:=(Xl7 (l:=ns0) (Xh ks i)).1
    simp
    omega
theorem Gs {ks:List ByteArray}:∀{i:Nat} {ns:List ByteArray} {ps:List Nat},Ze ks i=some (ns,ps)→∀x∈ps,x<i:=by
 intro i
 induction i with
 |zero=>intro ns ps h;simp[Ze] at h;obtain ⟨rfl,rfl⟩:=h;simp
 | succ i ih =>
  intro ns ps h
  rw[Ze] at h
  split at h
  ·cases h
  ·rename_i ns0 ps0 h0
   split at h
   ·cases h
   ·injection h with h
    injection h with e1 e2
    subst e1 e2
    intro x hx
    simp only[List.mem_append,List.mem_singleton] at hx
    rcases hx with (hx|hx)|hx
    ·have:=ih h0 x (List.mem_of_mem_take hx);omega
    ·omega
    ·have:=ih h0 x (List.mem_of_mem_drop hx);omega
theorem Xsc {ks:List ByteArray} {i j:Nat} (h:Ze ks i=none) (hij:i≤j):Ze ks j=none:=by
 obtain ⟨d,rfl⟩:∃d,j=i+d:=⟨j-i,by omega⟩
 clear hij
 induction d with
 |zero=>exact h
 |succ d ih=>rw[←Nat.add_assoc,Ze,ih]
theorem Xei {ks:List ByteArray} {i j:Nat} {ns:List ByteArray} {ps:List Nat} (h:Ze ks i=some (ns,ps)) (hj:Z4 ns (Xh ks i)=j) (hn:Y5 ns (Xh ks i)=false):Ze ks (i+1)=some (ns.take j++ [Xh ks i]++ns.drop j,ps.take j++ [i]++ps.drop j):=by
 rw[Ze,h]
 simp only[hn,hj]
 rfl
theorem Xp9 {ks:List ByteArray} {i:Nat} {ns:List ByteArray} {ps:List Nat} (h:Ze ks i=some (ns,ps)) (hn:Y5 ns (Xh ks i)=true):Ze ks (i+1)=none:=by
 rw[Ze,h]
 simp only[hn]
 rfl
theorem Xtb {l:List ByteArray} {key:ByteArray} {j:Nat} (hj:Z4 l key=j):Y5 l key=(decide (j<l.length)&&decide ((Xh l j).toList=key.toList)):=by unfold Y5;rw[hj]
theorem Xqa {l:List ByteArray} {j:Nat} (hj:j<l.length):(l.map Value.string)[j]? =some (.string (Xh l j)):=by
 rw[List.getElem?_map,List.getElem?_eq_getElem hj]
 simp[Xh,hj]
def Xtc (B:Nat) (w:World) (v:Value) (m:Nat) (cs:Nat→Value):Prop:=
 ∃a cap,v= .slice a m cap∧(∀i,i<m→∃a n c,cs i= .slice a n c)∧(0<m→∃b o,a=some ⟨b,o,none⟩∧b<B∧∀i,i<m→w.cell? ⟨b,o+i,none⟩=some (cs i))
theorem Js {w:World} {base e s n x:Nat} {v:Value} {xs:List Value} (h:w.ownsRow base e s v n xs) (hx:v.ownBlock=some x):∃cap,v= .slice (some ⟨x,0,none⟩) n cap∧n≤cap:=by
 rcases h.2 with ⟨rfl,_⟩|⟨g,cap,cur,rfl,_,_,hnc,_⟩
 ·simp[Value.ownBlock] at hx
 ·simp[Value.ownBlock] at hx
  subst hx
  exact ⟨cap,rfl,hnc⟩
theorem Xgs:Tryz.prog.elem 72=9:=by kernel_rfl
theorem Xgt:Tryz.prog.elem 28=25:=by kernel_rfl
theorem Xtd (w:World):(sizeOf 9).run Tryz.prog w= .ok 1 w:=by
 obtain ⟨i,hi,hz,hs,hy⟩:=info_parts Wr
 simp[sizeOf,typeInfo,hi,hs]
theorem Xqb:(Tryz.prog.info? 25).map (fun i=>(i.zero,i.size,i.bytes))=some (some (.slice none 0 0),1,24):=by kernel_rfl
theorem Xte (w:World):(sizeOf 25).run Tryz.prog w= .ok 1 w:=by
 obtain ⟨i,hi,hz,hs,hy⟩:=info_parts Xqb
 simp[sizeOf,typeInfo,hi,hs]
theorem Xl0 (g j cap:Nat):sliced (some ⟨g,0,none⟩) 0 j cap 1= .slice (some ⟨g,0,none⟩) j cap:=by
 unfold sliced
 split
 ·rename_i h;subst h;simp
 ·simp[Addr.add]
theorem Xhc (g j n cap:Nat):∃ad,sliced (some ⟨g,0,none⟩) j n cap 1= .slice (some ad) (n-j) (cap-j)∧(j<n→n≤cap→ad=⟨g,j,none⟩):=by
 unfold sliced
 split
 ·rename_i h;subst h;exact ⟨_,rfl,fun h1 h2=>by omega⟩
 ·exact ⟨_,rfl,fun _ _=>by simp[Addr.add];intro h;exact h.symm⟩
theorem Xtf (g n cap j:Nat) (hj:j≤cap) (w:World):(Instr.slice 72 (.slice (some ⟨g,0,none⟩) n cap) none (some (.int .i64 (j:Int))) none).run Tryz.prog w= .ok (.slice (some ⟨g,0,none⟩) j cap) w:=by
 rw[run_slice_h (P:=Tryz.prog) (w:=w) 72 (some ⟨g,0,none⟩) n cap (by rw[Xgs];exact Tryz.underlying72) .i64 j (by omega) (by omega),Xgs,Xtd]
 simp only[Result.andThen,Int.toNat_natCast,Xl0]
theorem Xtg (g n cap j:Nat) (hj:j≤cap) (w:World):(Instr.slice 28 (.slice (some ⟨g,0,none⟩) n cap) none (some (.int .i64 (j:Int))) none).run Tryz.prog w= .ok (.slice (some ⟨g,0,none⟩) j cap) w:=by
 rw[run_slice_h (P:=Tryz.prog) (w:=w) 28 (some ⟨g,0,none⟩) n cap (by rw[Xgt];exact Tryz.underlying28) .i64 j (by omega) (by omega),Xgt,Xte]
 simp only[Result.andThen,Int.toNat_natCast,Xl0]
theorem Xl1 (g n cap j:Nat) (hj:j≤n):∃ad,(∀w,(Instr.slice 72 (.slice (some ⟨g,0,none⟩) n cap) (some (.int .i64 (j:Int))) none none).run Tryz.prog w= .ok (.slice (some ad) (n-j) (cap-j)) w)∧(j<n→n≤cap→ad=⟨g,j,none⟩):=by
 obtain ⟨ad,h1,h2⟩:=Xhc g j n cap
 refine ⟨ad,fun w=> ?_,h2⟩
 rw[run_slice_l (P:=Tryz.prog) (w:=w) 72 (some ⟨g,0,none⟩) n cap (by rw[Xgs];exact Tryz.underlying72) .i64 j (by omega) (by omega),Xgs,Xtd]
 simp only[Result.andThen,Int.toNat_natCast,h1]
theorem Xl2 (g n cap j:Nat) (hj:j≤n):∃ad,(∀w,(Instr.slice 28 (.slice (some ⟨g,0,none⟩) n cap) (some (.int .i64 (j:Int))) none none).run Tryz.prog w= .ok (.slice (some ad) (n-j) (cap-j)) w)∧(j<n→n≤cap→ad=⟨g,j,none⟩):=by
 obtain ⟨ad,h1,h2⟩:=Xhc g j n cap
 refine ⟨ad,fun w=> ?_,h2⟩
 rw[run_slice_l (P:=Tryz.prog) (w:=w) 28 (some ⟨g,0,none⟩) n cap (by rw[Xgt];exact Tryz.underlying28) .i64 j (by omega) (by omega),Xgt,Xte]
 simp only[Result.andThen,Int.toNat_natCast,h1]

theorem Qu:(Tryz.prog.info? 25).map (fun i=>(i.zero,i.size,i.bytes))=some (some (.slice none 0 0),1,24):=by kernel_rfl
def Xe (vs:List VN):List Int:=(Xb vs (vs.length-1)).kids
def PL (vs:List VN) (i:Nat):List VN:=Yw vs (Xm (Xe vs) i).toNat
def Zm (vs:List VN):Nat:=if okB vs=true then (Xe vs).length else 0
theorem Zj {vs:List VN} (hok:okB vs=true) {k:Nat} (hk:k<(Xe vs).length):∃q:Nat,Xm (Xe vs) k=(q:Int)∧q+1<vs.length:=by
 obtain ⟨p1,p2,_,_⟩:=Xp hok
 have:=Zx (p2 (vs.length-1) (by omega)).2 hk
 refine ⟨(Xm (Xe vs) k).toNat, ?_, ?_⟩
 ·unfold Xe;omega
 ·unfold Xe;omega
theorem Kz {vs:List VN} (hf:∀i,i<vs.length→Fits (Xb vs i)):Zm vs≤80∧∀i,i<Zm vs→Few (PL vs i)∧∀j,j<(PL vs i).length→Fits (Xb (PL vs i) j):=by
 unfold Zm
 by_cases hok:okB vs=true
 ·rw[if_pos hok]
  obtain ⟨p1,_,_,p4⟩:=Xp hok
  refine ⟨by have:=p4 (vs.length-1) (by omega);unfold Xe;omega,fun i hi=> ?_⟩
  obtain ⟨q,hq,hql⟩:=Zj hok hi
  have e:PL vs i=Yw vs q:=by unfold PL;rw[hq];simp
  rw[e]
  have hp:=Xv4 hok hf (m:=q) (by omega)
  exact ⟨⟨(Uc hok (Nat.lt_succ_self q) (by omega)).2,fun j hj=>(hp j hj).2⟩,fun j hj=>(hp j hj).1⟩
 ·rw[if_neg hok]
  exact ⟨by omega,fun i hi=>absurd hi (by omega)⟩
set_option maxRecDepth 100000 in
theorem Ku (B:Nat) (v:Value) (vs:List VN) (w:World) (h:NodesAt B w v vs) (hB:B≤w.heap.size) (hok:okB vs=true):
  Calls Tryz.prog 72 #[v] w fun e w'=>∃r rs KV IV lo,e= .returned r∧Rows2 w.heap.size w' r (Xe vs).length (PL vs) rs KV IV lo∧Below w.heap.size w w':=by
 have HV:=Xa h
 obtain ⟨hlen,av,cap,rfl,hcell⟩:=h
 obtain ⟨p1,_,p3,_⟩:=Xp hok
 obtain ⟨b0,o0,rfl,hb0,hc⟩:=hcell (by omega)
 obtain ⟨ka,ki,hn1⟩:=hc (vs.length-1) (by omega)
 have HN1:=Xa hn1
 have HP3:=Xa p3
 have HKF:=Xa (Ve hok)
 have HRK:=Xa (fun k hk=>Zj (k:=k) hok hk)
 obtain ⟨i0,hi0,hz0,hs0,hy0⟩:=info_parts Qu
 obtain ⟨_,hkb,aI,cI,eI,hki⟩:=hn1.inn.kids
 subst eI
 have hb1:Below w.heap.size w (w.alloc (.cells #[] 25)):=(Below.refl _ _).alloc (Nat.le_refl _) _
 have c4:=(Xc (o:=o0+(vs.length-1) *5+4) hb1 (show b0<w.heap.size by omega)).trans hn1.c4
 have HKI:=Xa hki
 have p0:((vs.length:Int)-1).toNat=vs.length-1:=by omega
 have HR0:=Xa (Rows2.start (base:=w.heap.size) (World.ownsRow_lit w #[] 0 (Nat.le_refl _) (by simp[maxLen]) rfl) (by simp) (PL vs))
 have HB1:=Xa hb1
 have hkl:(Xe vs).length=(Xb vs (vs.length-1)).kids.length:=rfl
 have HKL:=Xa hkl
 have hk80:(Xb vs (vs.length-1)).kids.length≤80:=(HKF.out (vs.length-1) (by omega)).2.1
 obtain ⟨M,hM⟩:∃M,(Xb vs (vs.length-1)).kids.length=M:=⟨_,rfl⟩
 have HM:=Xa hM
 rw[hM] at c4 hk80
 clear hcell hc hn1 hki p3 hb1 hkl hM
 go_enter Tryz.func72,Tryz.ntmps72
 go_wp2_with fail
 go_loopw [3,5] (fun o i wr=>∃(k:Nat) (rs:Nat→Value) (KV IV:Nat→Nat→Value) (lo:Nat→Nat),k≤M∧i= .int .i64 k∧Rows2 w.heap.size wr o k (PL vs) rs KV IV lo∧Below w.heap.size w wr) (fun _ i _=>M-(intOf i).toNat)
 case atStart=>exact ⟨0,_,_,_,_,Nat.zero_le _,rfl,HR0.out,HB1.out⟩
 case round=>
  obtain ⟨k,rs,KV,IV,lo,hk,rfl,hrows,hbl⟩:=hrel
  have HR:=Xa hrows
  have zs:=hbl.size
  obtain ⟨ao,co,eo⟩:=Xj hrows.row
  subst eo
  clear hrows
  by_cases hlt:k<M
  ·obtain ⟨q,hq,hql⟩:=HRK.out k (by rw[HKL.out,HM.out];exact hlt)
   obtain ⟨bk,ok,rfl,hbk,hck⟩:=HKI.out (by rw[HM.out];omega)
   have hcq:wr.cell? ⟨bk,ok+k,none⟩=some (.int .i64 (q:Int)):=by
    have:=hck k (by rw[HM.out];exact hlt)
    rw[←hq]
    exact (Xc hbl (by omega)).trans this
   obtain ⟨⟨a0,h0⟩,htr⟩:=HP3.out q (by omega)
   have HTR:=Xa htr
   have HPL:Hid (run vs (-(a0:Int)) a0 (q+1-a0)=PL vs k):=by rw[Hid];unfold PL;rw[hq,Int.toNat_natCast,Yw,htr];simp[trF]
   clear htr hq hck
   go_wp2_with fail
   refine (Xio B _ vs q a0 h0 wr (HV.out.below (hbl.mono hB)) (by omega) p1.2 HKF.out (by omega) HTR.out).mono ?_
   rintro e w3 ⟨r,K,I,rfl,hn3,hb3⟩
   rw[HPL.out] at hn3
   have HN3:=Xa hn3
   obtain ⟨ar,cr,er⟩:=Xj hn3.row
   obtain ⟨Lk,hLk⟩:∃Lk,(PL vs k).length=Lk:=⟨_,rfl⟩
   rw[hLk] at er
   subst er
   have HB3:=Xa hb3
   have z3:=hb3.size
   have HROW:=Xa (HR.out.below hb3).row
   clear hn3 hb3 hLk
   go_wp2_with (at_builtin;refine wpList_append_own_at _ rfl _ _ 28 rfl w.heap.size 25 i0 (.slice none 0 0) 1 24 Tryz.underlying28 hi0 hz0 hs0 hy0 rfl (by decide) _ _ _ rfl (HROW.out.alloc _) ⟨w3.heap.size,0,none⟩ 1 1 [.slice ar Lk cr] rfl rfl ?c1 ?c2 ?c3 ?c4 ?c5 ?_)
   case c1=>exact cell_one_new _ _ _
   case c2=>intro u hu;simp at hu;subst hu;rfl
   case c3=>unfold maxLen;omega
   case c4=>omega
   case c5=>simp;omega
   intro v' w5 hown hgrow _ _
   have HR5:=Xa (HR.out.snoc HB3.out HN3.out hown hgrow)
   have HB5:Hid (Below w.heap.size w w5):=((hbl.trans (HB3.out.mono zs)).alloc (by omega) _).grown hgrow (by simp;omega) (fun x hx=>(HROW.out.lt x hx).1)
   clear hown hgrow
   go_wp2_with fail
   go_roundw
   case rel=>exact ⟨k+1,_,_,_,_,by omega,by go_num,HR5.out,HB5.out⟩
   case measure=>simp[intOf];omega
  ·obtain rfl:k=M:=by omega
   go_wp2_with fail
   go_ret
   exact ⟨_,_,_,_,_,rfl,by rw[HKL.out,HM.out];exact HR.out,hbl⟩

def Xto:Nat→VT→Prop
 |0,_=>False
 |f+1, .mk kind n s keys kids=>(1≤kind∧kind≤6)∧(-9223372036854775808≤n∧n≤9223372036854775807)∧s.size≤100000∧keys.length≤100000∧(∀i,i<keys.length→(Xh keys i).size≤100000)∧kids.length≤100000∧∀j,j<kids.length→Xto f (Yl kids j)
theorem X2n (f sh:Nat) {l:List VT}:∀{m j:Nat},j<m→m≤l.length→Xm (ksT f sh l m) j=((sh+(X6 f sh l (j+1)).length:Nat):Int)-1:=by
 intro m
 induction m with
 |zero=>intro j h;omega
 | succ m ih =>
  intro j hj hm
  have hl:=Xda f sh l (k:=m) (by omega)
  rw[Qy f sh (by omega)]
  by_cases e:j<m
  ·have:=ih e (by omega)
   unfold Xm at this⊢
   rw[List.getD_eq_getElem?_getD,List.getElem?_append_left (by omega),←List.getD_eq_getElem?_getD]
   exact this
  ·obtain rfl:j=m:=by omega
   unfold Xm
   rw[List.getD_eq_getElem?_getD,List.getElem?_append_right (by omega),hl,Nat.sub_self]
   rfl
theorem Xzc:∀{f:Nat} {t:VT},Xto f t→∀sh,sh+(Yi f t sh).length≤1000000→∀j,j<(Yi f t sh).length→Fits (Xb (Yi f t sh) j):=by
 intro f
 induction f with
 |zero=>intro t h;exact h.elim
 | succ f ih =>
  intro t h sh hn
  obtain ⟨kind,n,s,keys,kids⟩:=t
  obtain ⟨h1,h2,h3,h4,h5,h6,h7⟩:=h
  rw[Q1] at hn⊢
  rw[List.length_append,List.length_cons,List.length_nil] at hn⊢
  have ha:=Xlg f sh kids Fits kids.length (Nat.le_refl _)
  have hall:∀j,j<(X6 f sh kids kids.length).length→Fits (Xb (X6 f sh kids kids.length) j):=ha.2 (fun i hi=>by
   refine ih (h7 i hi) _ ?_
   have hle:=Xbo f sh kids (i+1)
   rw[Zi f sh hi,List.length_append] at hle
   omega)
  intro j hj
  by_cases e:j<(X6 f sh kids kids.length).length
  ·rw[Z1 e];exact hall j e
  ·obtain rfl:j=(X6 f sh kids kids.length).length:=by omega
   rw[Zz (Nat.le_refl _),Nat.sub_self]
   have hkl:=Xda f sh kids (Nat.le_refl _)
   refine ⟨by show keys.length≤_;omega,fun i hi=>by have:=h5 i hi;show (Xh keys i).size≤_;omega,by show (ksT f sh kids kids.length).length≤_;omega,fun i hi=> ?_,by show s.size≤_;omega,by show _≤kind;omega,by show kind≤_;omega,by show _≤n;omega,by show n≤_;omega⟩
   have hi':i<kids.length:=by have:i<(ksT f sh kids kids.length).length:=hi;omega
   have:=X2n f sh (l:=kids) hi' (Nat.le_refl _)
   have hle:=Xbo f sh kids (i+1)
   show-9223372036854775808≤Xm (ksT f sh kids kids.length) i∧Xm (ksT f sh kids kids.length) i≤9223372036854775807
   rw[this]
   omega

theorem X4w {F:VT→Nat}:∀{l:List VT},(∀j,j<l.length→1≤F (Yl l j))→l.length≤(l.map F).sum∧∀j,j<l.length→F (Yl l j)≤(l.map F).sum:=by
 intro l
 induction l with
 |nil=>intro _;exact ⟨by simp,fun j hj=>absurd hj (by simp)⟩
 | cons x l ih =>
  intro h
  have h0:1≤F x:=h 0 (by simp)
  obtain ⟨h1,h2⟩:=ih (fun j hj=>h (j+1) (by simp;omega))
  rw[List.map_cons,List.sum_cons,List.length_cons]
  refine ⟨by omega,fun j hj=> ?_⟩
  cases j with
  |zero=>show F x≤_;omega
  | succ j =>
   have:F (Yl l j)≤(l.map F).sum:=h2 j (by simp at hj;omega)
   show F (Yl l j)≤_
   omega
theorem X1c:∀{f:Nat} {t:VT},goodT f t→(Yi f t 0).length≤100000→Xto f t:=by
 intro f
 induction f with
 |zero=>intro t h;exact h.elim
 | succ f ih =>
  intro t h hl
  obtain ⟨kind,n,s,keys,kids⟩:=t
  rw[X34] at hl
  obtain ⟨s1,s2⟩:=X4w (F:=fun t=>(Yi f t 0).length) (l:=kids) (fun j hj=>Xhs (h.2 j hj).full 0)
  have hk:kids.length≤100000:=by omega
  have hem:ByteArray.empty.size=0:=rfl
  have hkids:∀j,j<kids.length→Xto f (Yl kids j):=fun j hj=>ih (h.2 j hj) (by have:=s2 j hj;omega)
  rcases Xuy h.1 with ⟨a1,a2,a3,a4,_⟩|⟨a1,a2,a3,a4,_⟩|⟨a1,a2,a3,a4,_⟩|⟨a1,a2,a3,a4,_⟩|⟨a1,a2,a3,a4⟩|⟨a1,a2,a3,a4,a5⟩
  ·exact ⟨by omega,by omega,by rw[a3];omega,by rw[a4];simp,fun i hi=>by rw[a4] at hi;simp at hi,hk,hkids⟩
  ·exact ⟨by omega,by omega,by rw[a3];omega,by rw[a4];simp,fun i hi=>by rw[a4] at hi;simp at hi,hk,hkids⟩
  ·exact ⟨by omega,by omega,by rw[a3];omega,by rw[a4];simp,fun i hi=>by rw[a4] at hi;simp at hi,hk,hkids⟩
  ·exact ⟨by omega,by omega,by omega,by rw[a4];simp,fun i hi=>by rw[a4] at hi;simp at hi,hk,hkids⟩
  ·exact ⟨by omega,by omega,by rw[a3];omega,by rw[a4];simp,fun i hi=>by rw[a4] at hi;simp at hi,hk,hkids⟩
  ·refine ⟨by omega,by omega,by rw[a3];omega,by omega,fun i hi=> ?_,hk,hkids⟩
   have:=(Xs2 a5 hi).1
   unfold Z7 at this
   simp only[Bool.and_eq_true,decide_eq_true_eq] at this
   omega
theorem Xxq {f:Nat} {t:VT} (h:goodT f t) (hl:(Yi f t 0).length≤100000):∀j,j<(Yi f t 0).length→Fits (Xb (Yi f t 0) j):=Xzc (X1c h hl) 0 (by omega)

theorem Xu3 (s:ByteArray) (w:World):Calls Tryz.prog 207 #[.string s] w fun e w'=>e= .returned (.bool false)∧w'=w:=by
 have f3:(s.toList==s.toList)=true:=by simp
 go_enter Tryz.func207,Tryz.ntmps207
 go_wp2_with fail
 go_ret
 exact ⟨by simp,rfl⟩
theorem Xx4 (s:ByteArray) (w:World):Calls Tryz.prog 197 #[.string s] w fun e w'=>e= .returned (.bool false)∧w'=w:=by
 have f3:(s.toList==s.toList)=true:=by simp
 go_enter Tryz.func197,Tryz.ntmps197
 go_wp2_with fail
 go_ret
 exact ⟨by simp,rfl⟩
theorem Xr3 (a b:ByteArray) (w:World):Calls Tryz.prog 196 #[.string a, .string b] w fun e w'=>e= .returned (.bool (Y9 a b))∧w'=w:=by
 go_enter Tryz.func196,Tryz.ntmps196
 go_wp2_with (go_at_call 207;refine (Xu3 _ _).mono ?_;rintro e w' ⟨rfl,rfl⟩)
 go_ret
 exact ⟨rfl,rfl⟩
set_option maxRecDepth 100000 in
theorem Xef (B:Nat) (v:Value) (l:List ByteArray) (key:ByteArray) (w:World) (h:StrsAt B w v l) (hr:Xid l) (hl:l.length≤1048576):
  Calls Tryz.prog 183 #[v, .string key] w fun e w'=>e= .returned (.tuple #[.int .i64 (Z4 l key:Nat), .bool (Y5 l key)])∧w'=w:=by
 obtain ⟨_,_,a,cap,rfl,hc⟩:=h
 have HC:=Xa hc
 have HR:=Xa hr
 clear hc hr
 go_enter Tryz.func183,Tryz.ntmps183
 go_wp2_with fail
 go_loop [7,8,9] (fun p q _=>∃i j:Nat,i≤j∧j≤l.length∧p= .int .i64 i∧q= .int .i64 j∧Hid (∀t,t<i→Y9 (Xh l t) key=true)∧Hid (j<l.length→Y9 (Xh l j) key=false)) (fun p q _=>(intOf q).toNat-(intOf p).toNat)
 case atStart=>exact ⟨0,l.length,Nat.zero_le _,Nat.le_refl _,rfl,rfl,fun t ht=>by omega,fun h=>absurd h (by omega)⟩
 case round=>
  obtain ⟨i,j,hij,hjl,rfl,rfl,HL,HG⟩:=hrel
  by_cases hlt:i<j
  ·obtain ⟨b,o,rfl,hbB,hcc⟩:=HC.out (by omega)
   obtain ⟨h,hh⟩:∃h:Nat,h=(i+j)/2:=⟨_,rfl⟩
   have h1:i≤h:=by omega
   have h2:h<j:=by omega
   have hck:=hcc h (by omega)
   have p0:((i:Int)+(j:Int))/2=(h:Int):=by omega
   have hhl:h<l.length:=by omega
   clear hcc hh
   go_wp2_with fail
   refine (Xr3 _ _ _).mono ?_
   rintro e w1 ⟨rfl,rfl⟩
   cases hle:Y9 (Xh l h) key
   ·have HG2:Hid (h<l.length→Y9 (Xh l h) key=false):=fun _=>hle
    go_wp2_with fail
    go_round
    case rel=>exact ⟨i,h,h1,by omega,rfl,rfl,HL,HG2⟩
    case measure=>simp[intOf];omega
   ·have HL2:Hid (∀t,t<h+1→Y9 (Xh l t) key=true):=fun t ht=>by
     by_cases e:t=h
     ·subst e;exact hle
     ·exact Xbm (HR.out t h (by omega) hhl) hle
    go_wp2_with fail
    go_round
    case rel=>exact ⟨h+1,j,by omega,hjl,by go_num,rfl,HL2,HG⟩
    case measure=>simp[intOf];omega
  ·obtain rfl:i=j:=by omega
   have HP:=Xa (Xgv hjl HL.out HG.out)
   by_cases hil:i<l.length
   ·obtain ⟨b,o,rfl,hbB,hcc⟩:=HC.out (by omega)
    have hck:=hcc i hil
    by_cases he:(Xh l i).toList=key.toList
    ·have HH:Hid (Y5 l key=true):=by unfold Hid Y5;rw[HP.out];simp[hil,he]
     have hz:((Xh l i).toList==key.toList)=true:=by simp[he]
     clear hcc
     go_wp2_with fail
     go_ret2
     exact ⟨by rw[HH.out,HP.out];rfl,rfl⟩
    ·have HH:Hid (Y5 l key=false):=by unfold Hid Y5;rw[HP.out];simp[hil,he]
     have hz:((Xh l i).toList==key.toList)=false:=by simpa using he
     clear hcc
     go_wp2_with (go_at_call 197;refine (Xx4 _ _).mono ?_;rintro e w' ⟨rfl,rfl⟩)
     go_ret2
     exact ⟨by rw[HH.out,HP.out];rfl,rfl⟩
   ·have HH:Hid (Y5 l key=false):=by unfold Hid Y5;rw[HP.out];simp[hil]
    have hil':¬((i:Int)<(l.length:Int)):=by omega
    go_wp2_with fail
    go_ret2
    exact ⟨by rw[HH.out,HP.out];rfl,rfl⟩

def ValsAt (w:World) (it:Value) (m:Nat) (V:Nat→Value):Prop:=
 ∃a cap,it= .slice a m cap∧(0<m→∃b,a=some ⟨b,0,none⟩∧b<w.heap.size∧∀j,j<m→w.cell? ⟨b,j,none⟩=some (V j))∧∀j,j<m→∃t x,V j= .iface t x
theorem ValsAt.below {w w':World} {it:Value} {m:Nat} {V:Nat→Value} (h:ValsAt w it m V) (hb:Below w.heap.size w w'):ValsAt w' it m V:=by
 obtain ⟨a,cap,e,hc,hi⟩:=h
 refine ⟨a,cap,e,fun hp=> ?_,hi⟩
 obtain ⟨b,ea,hbl,hcc⟩:=hc hp
 exact ⟨b,ea,Nat.lt_of_lt_of_le hbl hb.size,fun j hj=>(Xc hb hbl).trans (hcc j hj)⟩
def Xz9 (w:World) (c:Value) (m:Nat) (V:Nat→Value) (h:Nat→Bool):Prop:=
 ∀w',Below w.heap.size w w'→∀k,k<m→Calls Tryz.prog 202 #[V k,c] w' fun e w''=>e= .returned (.bool (h k))∧Below w'.heap.size w' w''
set_option maxRecDepth 100000 in
theorem Xmh (it c:Value) (m:Nat) (V:Nat→Value) (h:Nat→Bool) (w:World) (hv:ValsAt w it m V) (hs:Xz9 w c m V h) (hm:m≤1000000):
  Calls Tryz.prog 182 #[it, .func (.func 202) #[] #[c]] w fun e w'=>(∃r:Int,e= .returned (.int .i64 r)∧(decide (0≤r))=Zf h m∧-1≤r∧r≤1000000)∧Below w.heap.size w w':=by
 have HS:=Xa hs
 have HV:=Xa hv
 obtain ⟨a,cap,rfl,_,_⟩:=hv
 clear hs
 go_enter Tryz.func182,Tryz.ntmps182
 go_wp2_with fail
 go_loopw [5,8] (fun _ i wr=>∃k:Nat,k≤m∧i= .int .i64 k∧Hid (Zf h k=false)∧Below w.heap.size w wr) (fun _ i _=>m-(intOf i).toNat)
 case atStart=>exact ⟨0,Nat.zero_le _,rfl,rfl,Below.refl _ _⟩
 case round=>
  obtain ⟨k,hk,rfl,HN,hbl⟩:=hrel
  by_cases hlt:k<m
  ·obtain ⟨a',cap',e',hc,hi⟩:=HV.out
   cases e'
   obtain ⟨b,rfl,hbl2,hcc⟩:=hc (by omega)
   obtain ⟨t,x,hx⟩:=hi k hlt
   have hcell:=(Xc hbl hbl2).trans (hcc k hlt)
   rw[hx] at hcell
   have HC:=Xa (HS.out wr hbl k hlt)
   rw[hx] at HC
   clear hc hi hcc
   cases hh:h k
   ·rw[hh] at HC
    have HN2:Hid (Zf h (k+1)=false):=by rw[Hid,Zf,HN.out,hh];rfl
    go_wp2_with fail
    refine HC.out.mono ?_
    rintro e w1 ⟨rfl,hb1⟩
    have HB1:=Xa (hbl.trans (hb1.mono hbl.size))
    clear hb1
    go_wp2_with fail
    go_roundw
    case rel=>exact ⟨k+1,by omega,by go_num,HN2,HB1.out⟩
    case measure=>simp[intOf];omega
   ·rw[hh] at HC
    have HY:=Xa (Xyn hlt hh)
    go_wp2_with fail
    refine HC.out.mono ?_
    rintro e w1 ⟨rfl,hb1⟩
    have HB1:=Xa (hbl.trans (hb1.mono hbl.size))
    clear hb1
    go_wp2_with fail
    go_ret
    exact ⟨⟨k,rfl,by rw[HY.out];simp,by omega,by omega⟩,HB1.out⟩
  ·obtain rfl:k=m:=by omega
   go_wp2_with fail
   go_ret
   exact ⟨⟨-1,rfl,by rw[HN.out];rfl,by omega,by omega⟩,hbl⟩
theorem Xht (it c:Value) (m:Nat) (V:Nat→Value) (h:Nat→Bool) (w:World) (hv:ValsAt w it m V) (hs:Xz9 w c m V h) (hm:m≤1000000):
  Calls Tryz.prog 151 #[it, .func (.func 202) #[] #[c]] w fun e w'=>e= .returned (.bool (Zf h m))∧Below w.heap.size w w':=by
 have HS:=Xa hs
 have HV:=Xa hv
 obtain ⟨a,cap,rfl,_,_⟩:=hv
 clear hs
 go_enter Tryz.func151,Tryz.ntmps151
 go_wp2_with fail
 refine (Xmh _ c m V h w HV.out HS.out hm).mono ?_
 rintro e w1 ⟨⟨r,rfl,hr,h1,h2⟩,hb⟩
 have HR:=Xa hr
 clear hr
 go_wp2_with fail
 all_goals
  go_ret
  exact ⟨Xn (by rw[←HR.out];try simp[*]),hb⟩
set_option maxRecDepth 100000 in
theorem Xri (it it':Value) (m m':Nat) (V V':Nat→Value) (g:Nat→Nat→Bool) (w:World) (hv:ValsAt w it m V) (hv':ValsAt w it' m' V') (hm:m≤1000) (hm':m'≤1000)
  (hs:∀w1,Below w.heap.size w w1→∀xb i,i<m→w1.cell? ⟨xb,0,none⟩=some (V i)→xb<w1.heap.size→Xz9 w1 (.pointer (some ⟨xb,0,none⟩)) m' V' (g i)):
  Calls Tryz.prog 192 #[it,it'] w fun e w'=>∃r,e= .returned r∧w'.ownsRow w.heap.size 52 1 r (Yx (fun i=>Zf (g i) m') m).length ((Yx (fun i=>Zf (g i) m') m).map V)∧Below w.heap.size w w':=by
 have HV:=Xa hv
 have HV':=Xa hv'
 have HS:=Xa hs
 obtain ⟨i0,hi0,hz0,hs0,hy0⟩:=info_parts Xbr
 obtain ⟨a,cap,rfl,_,_⟩:=hv
 obtain ⟨a',cap',rfl,_,_⟩:=hv'
 clear hs
 go_enter Tryz.func192,Tryz.ntmps192
 go_wp2_with fail
 go_loopw [5,7,10] (fun o _ i wr=>∃(k:Nat),k≤m∧i= .int .i64 k∧wr.ownsRow w.heap.size 52 1 o (Yx (fun i=>Zf (g i) m') k).length ((Yx (fun i=>Zf (g i) m') k).map V)∧Below w.heap.size w wr) (fun _ _ i _=>m-(intOf i).toNat)
 case atStart=>exact ⟨0,Nat.zero_le _,rfl,World.ownsRow_nil _ _ _ _,Below.refl _ _⟩
 case round=>
  obtain ⟨k,hk,rfl,hrow,hbl⟩:=hrel
  have HROW:=Xa hrow
  have zs:=hbl.size
  obtain ⟨ao,co,eo⟩:=Xj hrow
  have HPL:=Xa (V9 (fun i=>Zf (g i) m') k)
  obtain ⟨ps,hps⟩:∃ps,Yx (fun i=>Zf (g i) m') k=ps:=⟨_,rfl⟩
  have HPS:=Xa hps
  rw[hps] at eo HROW HPL
  obtain ⟨N,hN⟩:∃N,ps.length=N:=⟨_,rfl⟩
  have HN:=Xa hN
  rw[hN] at eo
  subst eo
  have hNk:N≤k:=by rw[←hN];exact HPL.out.1
  clear hrow hps hN
  by_cases hlt:k<m
  ·obtain ⟨a2,cap2,e2,hc,hi⟩:=HV.out
   cases e2
   obtain ⟨b,rfl,hbb,hcc⟩:=hc (by omega)
   obtain ⟨t,x,hx⟩:=hi k hlt
   have hcell:=(Xc hbl hbb).trans (hcc k hlt)
   rw[hx] at hcell
   have HX:=Xa hx
   clear hc hi hcc hx
   obtain ⟨W1,hW1⟩:∃W1,wr.alloc (.cells #[.iface t x] 52)=W1:=⟨_,rfl⟩
   have hx1:W1.cell? ⟨wr.heap.size,0,none⟩=some (.iface t x):=by rw[←hW1];simp
   have hz1:W1.heap.size=wr.heap.size+1:=by rw[←hW1];simp
   have HB1:Hid (Below w.heap.size w W1):=by rw[Hid,←hW1];exact hbl.alloc zs _
   have HR1:Hid (W1.ownsRow w.heap.size 52 1 (.slice ao N co) ps.length (ps.map V)):=by rw[Hid,←hW1];exact HROW.out.alloc _
   have HW1:=Xa hW1
   have HSY:=Xa (HS.out W1 HB1.out wr.heap.size k hlt (by rw[HX.out];exact hx1) (by omega))
   have hlt1:wr.heap.size<W1.heap.size:=by omega
   have HX1:=Xa hx1
   clear hW1 hx1 hz1
   have HG:Hid (∃q,Zf (g k) m'=q):=⟨_,rfl⟩
   go_wp2_with fail
   rw[HW1.out]
   refine (Xht _ _ m' V' (g k) W1 (HV'.out.below HB1.out) HSY.out (by omega)).mono ?_
   rintro e w2 ⟨rfl,hb2⟩
   have HB2:=Xa (HB1.out.trans (hb2.mono HB1.out.size))
   have HR2:=Xa (Vj HR1.out ((From.refl w.heap.size W1).below hb2))
   have hx2:=(Xc hb2 hlt1).trans HX1.out
   have z2:=hb2.size
   clear hb2
   cases hq:Zf (g k) m'
   ·have HPK:Hid (Yx (fun i=>Zf (g i) m') (k+1)=ps++ [k]):=by rw[Hid,Yx];simp only[hq];rw[HPS.out];rfl
    go_wp2_with (at_builtin;refine wpList_append_own_at _ rfl _ _ 58 rfl w.heap.size 52 i0 .nilIface 1 16 Tryz.underlying58 hi0 hz0 hs0 hy0 rfl (by decide) _ _ _ rfl (HR2.out.alloc _) ⟨w2.heap.size,0,none⟩ 1 1 [.iface t x] rfl rfl ?c1 ?c2 ?c3 ?c4 ?c5 ?_)
    case c1=>exact cell_one_new _ _ _
    case c2=>intro u hu;simp at hu;subst hu;rfl
    case c3=>have:=HN.out;unfold maxLen;omega
    case c4=>have:=HN.out;omega
    case c5=>simp;omega
    intro v' w5 hown hgrow _ _
    have HR5:Hid (w5.ownsRow w.heap.size 52 1 v' (Yx (fun i=>Zf (g i) m') (k+1)).length ((Yx (fun i=>Zf (g i) m') (k+1)).map V)):=by
     rw[Hid,HPK.out,List.map_append,List.length_append]
     simp only[List.map_cons,List.map_nil,List.length_singleton]
     rw[HX.out]
     exact hown
    have HB5:Hid (Below w.heap.size w w5):=(HB2.out.alloc HB2.out.size _).grown hgrow (by have:=HB2.out.size;simp;omega) (fun y hy=>(HR2.out.lt y hy).1)
    clear hown hgrow
    go_wp2_with fail
    go_roundw
    case rel=>exact ⟨k+1,by omega,by go_num,HR5.out,HB5.out⟩
    case measure=>simp[intOf];omega
   ·have HPK:Hid (Yx (fun i=>Zf (g i) m') (k+1)=ps):=by rw[Hid,Yx];simp only[hq];rw[if_pos trivial];exact HPS.out
    have HR5:Hid (w2.ownsRow w.heap.size 52 1 (.slice ao N co) (Yx (fun i=>Zf (g i) m') (k+1)).length ((Yx (fun i=>Zf (g i) m') (k+1)).map V)):=by rw[Hid,HPK.out];exact HR2.out
    go_wp2_with fail
    go_roundw
    case rel=>exact ⟨k+1,by omega,by go_num,HR5.out,HB2.out⟩
    case measure=>simp[intOf];omega
  ·obtain rfl:k=m:=by omega
   have HR5:Hid (wr.ownsRow w.heap.size 52 1 (.slice ao N co) (Yx (fun i=>Zf (g i) m') k).length ((Yx (fun i=>Zf (g i) m') k).map V)):=by rw[Hid,HPS.out];exact HROW.out
   go_wp2_with fail
   go_ret
   exact ⟨_,rfl,HR5.out,hbl⟩

theorem K3 (n:Int) (w:World):Calls Tryz.prog 98 #[.int .i64 n] w fun e w'=>∃r KV IV,e= .returned r∧Nest w.heap.size w' r (Xu 3 n ByteArray.empty) KV IV∧Below w.heap.size w w':=by
 go_enter Tryz.func98,Tryz.ntmps98
 go_wp2_with fail
 go_ret
 exact ⟨_,_,_,rfl,Vy w 3 n _,(Below.refl _ _).alloc (Nat.le_refl _) _⟩
set_option maxRecDepth 100000 in
theorem Xop (B:Nat) (v:Value) (vs:List VN) (w:World) (h:NodesAt B w v vs) (hB:B≤w.heap.size) (hok:okB vs=true):
  Calls Tryz.prog 78 #[v] w fun e w'=>∃r base KV IV,e= .returned (.tuple #[r, .int .i64 (Xiy (Zn (Xd vs)))])∧w.heap.size≤base∧Nest base w' r (Xm0 (Zn (Xd vs))) KV IV∧Below w.heap.size w w':=by
 have HRS:=Xa (J3 hok)
 obtain ⟨hlen,av,cap,rfl,hcell⟩:=h
 obtain ⟨p1,_,_,_⟩:=Xp hok
 obtain ⟨b0,o0,rfl,hb0,hc⟩:=hcell (by omega)
 obtain ⟨ka,ki,hn⟩:=hc (vs.length-1) (by omega)
 obtain ⟨x,hx⟩:∃x,Xd vs=x:=⟨_,rfl⟩
 have hx':Xb vs (vs.length-1)=x:=hx
 rw[hx'] at hn
 rw[hx] at HRS⊢
 have HK:Hid (Zn x=Zn x):=rfl
 obtain ⟨M,hM⟩:∃M,vs.length=M:=⟨_,rfl⟩
 rw[hM] at hn p1 hlen⊢
 obtain ⟨_,_,aK,cK,eK,_⟩:=hn.inn.keys
 obtain ⟨_,_,aI,cI,eI,_⟩:=hn.inn.kids
 subst eK eI
 have c0:=hn.c0
 have c1:=hn.c1
 have c2:=hn.c2
 have c3:=hn.c3
 have c4:=hn.c4
 have p0:((M:Int)-1).toNat=M-1:=by omega
 obtain ⟨p1a,p1b⟩:=p1
 clear hcell hc hn hx hx' hM hok HK
 obtain ⟨W,hW⟩:∃W,w.alloc (.cells #[.int .i64 x.kind, .int .i64 x.n, .string x.s, .slice aK x.keys.length cK, .slice aI x.kids.length cI] 75)=W:=⟨_,rfl⟩
 have r0:W.cell? ⟨w.heap.size,0,none⟩=some (.int .i64 x.kind):=by rw[←hW];simp
 have r1:W.cell? ⟨w.heap.size,1,none⟩=some (.int .i64 x.n):=by rw[←hW];simp
 have r2:W.cell? ⟨w.heap.size,2,none⟩=some (.string x.s):=by rw[←hW];simp
 have r4:W.cell? ⟨w.heap.size,4,none⟩=some (.slice aI x.kids.length cI):=by rw[←hW];simp
 have rz:w.heap.size<W.heap.size:=by rw[←hW];simp
 have HW:=Xa hW
 have HBW:Hid (Below w.heap.size w W):=by rw[Hid,←hW];exact (Below.refl _ _).alloc (Nat.le_refl _) _
 clear hW
 have HRST:=Xa (And.intro r0 (And.intro r1 (And.intro r2 r4)))
 clear r0 r1 r2 r4
 have HAL:Hid (w.alloc (.cells #[.int .i64 x.kind, .int .i64 x.n, .string x.s, .slice aK x.keys.length cK, .slice aI x.kids.length cI] 75)=W):=HW.out
 rcases HRS.out with k|k|⟨k,n1,n2⟩|⟨k,n1⟩|⟨k,n1⟩|⟨k,n1⟩
 ·have HL:Hid (Zn x=some (0)):=by unfold Hid Zn;simp[k]
  rw[HL.out]
  rw[k] at c0 HAL HRST
  clear k HRS
  have hzz:w.heap.size≤(w.alloc (.cells #[.int .i64 1, .int .i64 x.n, .string x.s, .slice aK x.keys.length cK, .slice aI x.kids.length cI] 75)).heap.size:=by simp
  go_enter Tryz.func78,Tryz.ntmps78
  go_wp2_with fail
  refine (K3 (0) _).mono ?_
  rintro e w2 ⟨r,KV,IV,rfl,hn,hb⟩
  have HN:=Xa hn
  obtain ⟨ar,cr,er⟩:=Xj hn.row
  simp only[Xu,List.length_cons,List.length_nil] at er
  subst er
  have HB2:Hid (Below w.heap.size w w2):=((Below.refl _ _).alloc (Nat.le_refl _) _).trans (hb.mono (by simp))
  clear hn hb
  go_wp2_with fail
  go_ret2
  exact ⟨_,_,KV,IV,rfl,hzz,HN.out,HB2.out⟩
 ·have HL:Hid (Zn x=none):=by unfold Hid Zn;simp[k]
  rw[HL.out]
  rw[k] at c0 HAL HRST
  clear k HRS
  go_enter Tryz.func78,Tryz.ntmps78
  go_wp2_with fail
  go_ret2
  exact ⟨_,w.heap.size,fun _=>undef,fun _=>undef,rfl,Nat.le_refl _,Nest.nil _ _ _ _,(Below.refl _ _).alloc (Nat.le_refl _) _⟩
 ·by_cases hs:x.n< -x.n
  ·have HL:Hid (Zn x=some (-x.n)):=by unfold Hid Zn;simp[k];omega
   rw[HL.out]
   rw[k] at c0 HAL HRST
   clear k HRS
   have hzz:w.heap.size≤(w.alloc (.cells #[.int .i64 3, .int .i64 x.n, .string x.s, .slice aK x.keys.length cK, .slice aI x.kids.length cI] 75)).heap.size:=by simp
   go_enter Tryz.func78,Tryz.ntmps78
   go_wp2_with fail
   refine (K3 (-x.n) _).mono ?_
   rintro e w2 ⟨r,KV,IV,rfl,hn,hb⟩
   have HN:=Xa hn
   obtain ⟨ar,cr,er⟩:=Xj hn.row
   simp only[Xu,List.length_cons,List.length_nil] at er
   subst er
   have HB2:Hid (Below w.heap.size w w2):=((Below.refl _ _).alloc (Nat.le_refl _) _).trans (hb.mono (by simp))
   clear hn hb
   go_wp2_with fail
   go_ret2
   exact ⟨_,_,KV,IV,rfl,hzz,HN.out,HB2.out⟩
  ·have HL:Hid (Zn x=some (x.n)):=by unfold Hid Zn;simp[k];omega
   rw[HL.out]
   rw[k] at c0 HAL HRST
   clear k HRS
   have hzz:w.heap.size≤(w.alloc (.cells #[.int .i64 3, .int .i64 x.n, .string x.s, .slice aK x.keys.length cK, .slice aI x.kids.length cI] 75)).heap.size:=by simp
   go_enter Tryz.func78,Tryz.ntmps78
   go_wp2_with fail
   refine (K3 (x.n) _).mono ?_
   rintro e w2 ⟨r,KV,IV,rfl,hn,hb⟩
   have HN:=Xa hn
   obtain ⟨ar,cr,er⟩:=Xj hn.row
   simp only[Xu,List.length_cons,List.length_nil] at er
   subst er
   have HB2:Hid (Below w.heap.size w w2):=((Below.refl _ _).alloc (Nat.le_refl _) _).trans (hb.mono (by simp))
   clear hn hb
   go_wp2_with fail
   go_ret2
   exact ⟨_,_,KV,IV,rfl,hzz,HN.out,HB2.out⟩
 ·have HL:Hid (Zn x=some ((x.s.size:Int))):=by unfold Hid Zn;simp[k]
  rw[HL.out]
  rw[k] at c0 HAL HRST
  clear k HRS
  have hzz:w.heap.size≤(w.alloc (.cells #[.int .i64 4, .int .i64 x.n, .string x.s, .slice aK x.keys.length cK, .slice aI x.kids.length cI] 75)).heap.size:=by simp
  go_enter Tryz.func78,Tryz.ntmps78
  go_wp2_with fail
  refine (K3 ((x.s.size:Int)) _).mono ?_
  rintro e w2 ⟨r,KV,IV,rfl,hn,hb⟩
  have HN:=Xa hn
  obtain ⟨ar,cr,er⟩:=Xj hn.row
  simp only[Xu,List.length_cons,List.length_nil] at er
  subst er
  have HB2:Hid (Below w.heap.size w w2):=((Below.refl _ _).alloc (Nat.le_refl _) _).trans (hb.mono (by simp))
  clear hn hb
  go_wp2_with fail
  go_ret2
  exact ⟨_,_,KV,IV,rfl,hzz,HN.out,HB2.out⟩
 ·have HL:Hid (Zn x=some ((x.kids.length:Int))):=by unfold Hid Zn;simp[k]
  rw[HL.out]
  rw[k] at c0 HAL HRST
  clear k HRS
  have hzz:w.heap.size≤(w.alloc (.cells #[.int .i64 5, .int .i64 x.n, .string x.s, .slice aK x.keys.length cK, .slice aI x.kids.length cI] 75)).heap.size:=by simp
  go_enter Tryz.func78,Tryz.ntmps78
  go_wp2_with fail
  refine (K3 ((x.kids.length:Int)) _).mono ?_
  rintro e w2 ⟨r,KV,IV,rfl,hn,hb⟩
  have HN:=Xa hn
  obtain ⟨ar,cr,er⟩:=Xj hn.row
  simp only[Xu,List.length_cons,List.length_nil] at er
  subst er
  have HB2:Hid (Below w.heap.size w w2):=((Below.refl _ _).alloc (Nat.le_refl _) _).trans (hb.mono (by simp))
  clear hn hb
  go_wp2_with fail
  go_ret2
  exact ⟨_,_,KV,IV,rfl,hzz,HN.out,HB2.out⟩
 ·have HL:Hid (Zn x=some ((x.kids.length:Int))):=by unfold Hid Zn;simp[k]
  rw[HL.out]
  rw[k] at c0 HAL HRST
  clear k HRS
  have hzz:w.heap.size≤(w.alloc (.cells #[.int .i64 6, .int .i64 x.n, .string x.s, .slice aK x.keys.length cK, .slice aI x.kids.length cI] 75)).heap.size:=by simp
  go_enter Tryz.func78,Tryz.ntmps78
  go_wp2_with fail
  refine (K3 ((x.kids.length:Int)) _).mono ?_
  rintro e w2 ⟨r,KV,IV,rfl,hn,hb⟩
  have HN:=Xa hn
  obtain ⟨ar,cr,er⟩:=Xj hn.row
  simp only[Xu,List.length_cons,List.length_nil] at er
  subst er
  have HB2:Hid (Below w.heap.size w w2):=((Below.refl _ _).alloc (Nat.le_refl _) _).trans (hb.mono (by simp))
  clear hn hb
  go_wp2_with fail
  go_ret2
  exact ⟨_,_,KV,IV,rfl,hzz,HN.out,HB2.out⟩

theorem Xd7 (l:List ByteArray):∀u∈l.map Value.string,u.oneCell'=true:=by
 intro u hu
 obtain ⟨x,_,rfl⟩:=List.mem_map.1 hu
 rfl
def X0q (base:Nat) (w w':World) (cs:Nat→Value) (e:Ending):Option (List ByteArray×List Nat)→Prop
 |none=>e= .returned (.tuple #[.slice none 0 0, .slice none 0 0, .bool false])
 |some (ns,ps)=>∃nv lv,e= .returned (.tuple #[nv,lv, .bool true])∧w'.ownsRow base 9 1 nv ns.length (ns.map .string)∧w'.ownsRow base 25 1 lv ps.length (ps.map cs)
set_option maxRecDepth 100000 in
theorem Xol (B : Nat) (kv u : Value) (ks : List ByteArray) (cs : Nat → Value) (w : World) (h : StrsAt B w kv ks) (hu : Xtc B w u ks.length cs) (hB : B ≤ w.heap.size) (hm : ks.length ≤ 1048576) :
  Calls Tryz.prog 102 #[kv,u] w fun e w'=>X0q w.heap.size w w' cs e (Ze ks ks.length)∧Below w.heap.size w w':=by
 obtain ⟨_,_,ak,ck,rfl,hck⟩:=h
 obtain ⟨au,cu,rfl,hcs,hcu⟩:=hu
 have HCK:=Xa hck
 have HCU:=Xa hcu
 have HCS:=Xa hcs
 clear hck hcu hcs
 obtain ⟨i1,hi1,hzz1,hs1,hy1⟩:=info_parts Wr
 obtain ⟨i2,hi2,hzz2,hs2,hy2⟩:=info_parts Xqb
 obtain ⟨m,hmm⟩:∃m,ks.length=m:=⟨_,rfl⟩
 have HMM:=Xa hmm
 rw[hmm] at hm HCK HCU HCS⊢
 clear hmm
 have HN0:Hid (((w.alloc (.cells #[] 9)).alloc (.cells #[] 25)).ownsRow w.heap.size 9 1 (.slice (some ⟨w.heap.size,0,none⟩) 0 0) 0 (([]:List ByteArray).map .string)):=(World.ownsRow_lit (base:=w.heap.size) w #[] 0 (Nat.le_refl _) (by simp[maxLen]) rfl).alloc _
 have HL0:Hid (((w.alloc (.cells #[] 9)).alloc (.cells #[] 25)).ownsRow w.heap.size 25 1 (.slice (some ⟨w.heap.size+1,0,none⟩) 0 0) 0 (([]:List Nat).map cs)):=by
  have:=World.ownsRow_lit (base:=w.heap.size) (e:=25) (size:=1) (w.alloc (.cells #[] 9)) #[] 0 (by simp) (by simp[maxLen]) rfl
  simpa [Hid] using this
 have HON:Hid (∀l:List Nat,(∀i∈l,i<m)→∀u∈l.map cs,u.oneCell'=true):=by
  intro l hl u hu
  obtain ⟨i,hi,rfl⟩:=List.mem_map.1 hu
  obtain ⟨a,n,c,e⟩:=HCS.out i (hl i hi)
  rw[e];rfl
 go_enter Tryz.func102,Tryz.ntmps102
 go_wp2_with fail
 go_loopw [7,8,9] (fun nv lv i wr=>∃(k gn gl cn cl:Nat) (ns:List ByteArray) (ps:List Nat),k≤m∧i= .int .i64 k∧nv= .slice (some ⟨gn,0,none⟩) k cn∧lv= .slice (some ⟨gl,0,none⟩) k cl∧k≤cn∧k≤cl∧gn<wr.heap.size∧gl<wr.heap.size∧Ze ks k=some (ns,ps)∧wr.ownsRow w.heap.size 9 1 (.slice (some ⟨gn,0,none⟩) k cn) k (ns.map .string)∧wr.ownsRow w.heap.size 25 1 (.slice (some ⟨gl,0,none⟩) k cl) k (ps.map cs)∧Below w.heap.size w wr) (fun _ _ i _=>m-(intOf i).toNat)
 case atStart=>exact ⟨0,w.heap.size,w.heap.size+1,0,0,[],[],Nat.zero_le _,rfl,rfl,rfl,Nat.le_refl _,Nat.le_refl _,by simp;omega,by simp,rfl,HN0.out,HL0.out,((Below.refl _ _).alloc (Nat.le_refl _) _).alloc (by simp) _⟩
 case round =>
  obtain ⟨k,gn,gl,cn,cl,ns,ps,hk,rfl,rfl,rfl,hcn,hcl,hgn,hgl,hso,hnr,hlr,hbl⟩:=hrel
  have HSO:=Xa hso
  have HN:=Xa hnr
  have HL:=Xa hlr
  have HLN:=Xa (Gr hso)
  have HPM:=Xa (Gs hso)
  have zs:=hbl.size
  clear HN0 HL0 hso hnr hlr
  obtain ⟨W0,hW0⟩:∃W0,W0=wr:=⟨_,rfl⟩
  subst hW0
  by_cases hlt:k<m
  ·obtain ⟨bk,ok,rfl,hbk,hck⟩:=HCK.out (by omega)
   have ck0:=(Xc (o:=ok+k) hbl (show bk<w.heap.size by omega)).trans (hck k hlt)
   obtain ⟨key,hkey⟩:∃key,Xh ks k=key:=⟨_,rfl⟩
   have HKEY:=Xa hkey
   rw[hkey] at ck0
   clear hck hkey
   go_wp2_with fail
   go_loopw [10] (fun a wq=>∃(j:Nat),j≤k∧a= .int .i64 j∧Hid (∀t,t<j→Y9 (Xh ns t) key=true)∧Below W0.heap.size W0 wq) (fun a _=>k-(intOf a).toNat)
   case atStart=>exact ⟨0,Nat.zero_le _,rfl,fun t ht=>by omega,Below.refl _ _⟩
   case round =>
    obtain ⟨j,hjk,rfl,HLT,hbq⟩:=hrel
    have zq0:=hbq.size
    have dk0:=(Xc hbq (by omega)).trans ck0
    by_cases hj:j<k
    ·have dn0:wr.cell? ⟨gn,j,none⟩=some (.string (Xh ns j)):=by
      rw[Xc hbq (by omega),HN.out.cellAt j (by omega)]
      exact Xqa (by rw[HLN.out.1];exact hj)
     cases hle:Y9 (Xh ns j) key
     ·have hle':Op.bytesLess (Xh ns j).toList key.toList=false:=hle
      have HPO:Hid (Z4 ns key=j):=Xgv (by rw[HLN.out.1];exact hjk) HLT.out (fun _=>hle)
      have HHK:=Xa (Xtb HPO.out)
      clear hle
      go_wp2_with fail
      go_quiet (fail)
      have hbq1:=below_drewN hbq nq
      have en0:(wr.drewN nq).cell? ⟨gn,j,none⟩=some (.string (Xh ns j)):=(Xc (below_drewN (Below.refl wr.heap.size wr) nq) (by omega)).trans dn0
      have ek0:(wr.drewN nq).cell? ⟨bk,ok+k,none⟩=some (.string key):=(Xc (below_drewN (Below.refl wr.heap.size wr) nq) (by omega)).trans dk0
      clear dn0 dk0
      generalize wr.drewN nq=W1 at hbq1 en0 ek0⊢
      clear nq
      by_cases he:(Xh ns j).toList=key.toList
      ·have hz:((Xh ns j).toList==key.toList)=true:=by simp[he]
       have HNO:Hid (Y5 ns key=true):=by rw[Hid,HHK.out,HLN.out.1];simp[hj,he]
       clear he
       go_wp2_with fail
       go_quiet (fail)
       go_wp2_with fail
       go_ret3
       exact ⟨by rw[Xsc (Xp9 HSO.out (by rw[HKEY.out];exact HNO.out)) (show k+1≤m by omega)];rfl,hbl.trans ((below_drewN hbq1 nq).mono zs)⟩
      ·have hz:((Xh ns j).toList==key.toList)=false:=by simpa using he
       have HNO:Hid (Y5 ns key=false):=by rw[Hid,HHK.out];simp[he]
       clear he
       go_wp2_with fail
       go_quiet (fail)
       have hbQ:=below_drewN hbq1 nq
       clear en0 ek0
       generalize W1.drewN nq=WQ at hbQ⊢
       clear nq hbq1
       -- the key and the row are put in their place
       have zq:=hbQ.size
       have zw:w.heap.size≤WQ.heap.size:=Nat.le_trans zs zq
       have hgnQ:gn<WQ.heap.size:=by omega
       have hglQ:gl<WQ.heap.size:=by omega
       have HNQ:=Xa (Z2 HN.out hbQ (fun y hy=>(HN.out.lt y hy).2))
       have HLQ:=Xa (Z2 HL.out hbQ (fun y hy=>(HL.out.lt y hy).2))
       have HBQ:=Xa (hbl.trans (hbQ.mono zs))
       obtain ⟨bu,ou,rfl,hbu,hcu⟩:=HCU.out (by omega)
       have HUK:=Xa ((Xc HBQ.out (show bu<w.heap.size by omega)).trans (hcu k hlt))
       obtain ⟨ax,nx,cx,hcx⟩:=HCS.out k hlt
       have HCX:=Xa hcx
       rw[hcx] at HUK
       have HKK:Hid (WQ.cell? ⟨bk,ok+k,none⟩=some (.string key)):=(Xc hbQ (by omega)).trans ck0
       obtain ⟨ad1,hf1,ha1⟩:=Xl1 gn k cn j hjk
       obtain ⟨ad2,hf2,ha2⟩:=Xl2 gl k cl j hjk
       have hz1:=Xtf gn k cn j (by omega)
       have hz2:=Xtg gl k cl j (by omega)
       have HA1:=Xa ha1
       have HA2:=Xa ha2
       have HSI:Hid (Ze ks (k+1)=some (ns.take j++ [Xh ks k]++ns.drop j,ps.take j++ [k]++ps.drop j)):=Xei HSO.out (by rw[HKEY.out];exact HPO.out) (by rw[HKEY.out];exact HNO.out)
       have hkm:k≤1048576:=by omega
       have hkj:j+1+(k-j)=k+1:=by omega
       have HKJ:=Xa hkj
       clear hcu hcx ha1 ha2 hkj hbQ
       have HS1:Hid (0<j→∃ad',some (⟨gn,0,none⟩:Addr)=some ad'∧∀i x,((ns.take j).map Value.string)[i]? =some x→(WQ.alloc (.cells #[] 9)).cell? (ad'.add i)=some x):=by
        intro _
        refine ⟨_,rfl,fun i x hi=> ?_⟩
        have hij:i<j:=by have:=(List.getElem?_eq_some_iff.1 hi).1;simp at this;omega
        have ea:(⟨gn,0,none⟩:Addr).add i=⟨gn,i,none⟩:=by unfold Addr.add;split<;>simp_all
        rw[ea,Xc ((Below.refl WQ.heap.size WQ).alloc (Nat.le_refl _) _) hgnQ,HNQ.out.cellAt i (by omega)]
        rw[List.map_take,List.getElem?_take] at hi
        simpa [hij] using hi
       have HW1:Hid ((WQ.alloc (.cells #[] 9)).ownsRow WQ.heap.size 9 1 (.slice (some ⟨WQ.heap.size,0,none⟩) 0 0) 0 []):=by
        have:=World.ownsRow_lit (base:=WQ.heap.size) (e:=9) (size:=1) WQ #[] 0 (Nat.le_refl _) (by simp[maxLen]) rfl
        simpa [Hid] using this
       go_wp2_with (at_builtin;refine Ye rfl _ _ 72 rfl WQ.heap.size 9 i1 (.string ByteArray.empty) 1 16 Tryz.underlying72 hi1 hzz1 hs1 hy1 rfl (by decide) _ 0 [] rfl HW1.out (some ⟨gn,0,none⟩) j cn ((ns.take j).map Value.string) rfl ?c1 HS1.out ?c2 ?c3 ?c4 ?c5 ?_)
       case c1=>simp[HLN.out.1];omega
       case c2=>exact Xd7 _
       case c3=>unfold maxLen;omega
       case c4=>omega
       case c5=>simp
       intro va wa howna hga hata
       (try simp only[Nat.zero_add,List.nil_append] at howna)
       have hBa:Below WQ.heap.size WQ wa:=((Below.refl WQ.heap.size WQ).alloc (Nat.le_refl _) _).grown hga (by simp) (fun r hr=>by simp[Value.ownBlock] at hr;omega)
       have za:=hBa.size
       have hka:wa.cell? ⟨bk,ok+k,none⟩=some (.string key):=(Xc hBa (by omega)).trans HKK.out
       have HBA:=Xa hBa
       have HOA:=Xa howna
       obtain ⟨xa,hxa⟩:∃xa,va.ownBlock=some xa:=by
        rcases hata with e|e
        ·exact ⟨_,e⟩
        ·exact ⟨_,e⟩
       obtain ⟨ca,ea,_⟩:=Js howna hxa
       subst ea
       clear howna hga hata hxa hBa HW1 HS1
       go_wp2_with (at_builtin;refine wpList_append_own_at _ rfl _ _ 72 rfl WQ.heap.size 9 i1 (.string ByteArray.empty) 1 16 Tryz.underlying72 hi1 hzz1 hs1 hy1 rfl (by decide) _ _ _ rfl (HOA.out.alloc _) ⟨wa.heap.size,0,none⟩ 1 1 [.string key] rfl rfl ?c1 ?c2 ?c3 ?c4 ?c5 ?_)
       case c1=>exact cell_one_new _ _ _
       case c2=>intro u hu;simp at hu;subst hu;rfl
       case c3=>unfold maxLen;omega
       case c4=>omega
       case c5=>simp;omega
       intro vb wb hownb hgb hnb hatb
       have hBb:Below WQ.heap.size WQ wb:=(HBA.out.alloc za _).grown hgb (by simp;omega) (fun r hr=>(HOA.out.lt r hr).1)
       have zb:=hBb.size
       have HBB:=Xa hBb
       have HOB:=Xa hownb
       obtain ⟨xb,hxb⟩:∃xb,vb.ownBlock=some xb:=by
        rcases hatb with e|e
        ·exact ⟨_,e⟩
        ·exact ⟨_,e⟩
       obtain ⟨cb,eb,_⟩:=Js hownb hxb
       subst eb
       clear hownb hgb hnb hatb hxb hBb HBA HOA hka
       have HS3:Hid (0<k-j→∃ad',some ad1=some ad'∧∀i x,((ns.drop j).map Value.string)[i]? =some x→wb.cell? (ad'.add i)=some x):=by
        intro hp
        refine ⟨_,rfl,fun i x hi=> ?_⟩
        have hij:i<k-j:=by have:=(List.getElem?_eq_some_iff.1 hi).1;simp[HLN.out.1] at this;omega
        rw[HA1.out (by omega) hcn]
        have ea:(⟨gn,j,none⟩:Addr).add i=⟨gn,j+i,none⟩:=by unfold Addr.add;split<;>simp_all
        rw[ea,Xc HBB.out hgnQ,HNQ.out.cellAt (j+i) (by omega)]
        rw[List.map_drop,List.getElem?_drop] at hi
        exact hi
       go_wp2_with (at_builtin;refine Ye rfl _ _ 72 rfl WQ.heap.size 9 i1 (.string ByteArray.empty) 1 16 Tryz.underlying72 hi1 hzz1 hs1 hy1 rfl (by decide) _ (j+1) _ rfl HOB.out (some ad1) (k-j) (cn-j) ((ns.drop j).map Value.string) rfl ?c1 HS3.out ?c2 ?c3 ?c4 ?c5 ?_)
       case c1=>simp[HLN.out.1]
       case c2=>exact Xd7 _
       case c3=>unfold maxLen;omega
       case c4=>omega
       case c5=>exact zb
       intro vc wc hownc hgc hatc
       have hBc:Below WQ.heap.size WQ wc:=HBB.out.grown hgc zb (fun r hr=>(HOB.out.lt r hr).1)
       have zc:=hBc.size
       have HBC:=Xa hBc
       rw[HKJ.out] at hownc
       have HOC:Hid (wc.ownsRow WQ.heap.size 9 1 vc (k+1) ((ns.take j++ [key]++ns.drop j).map Value.string)):=by rw[Hid];simpa [List.map_append,List.map_take,List.map_drop] using hownc
       obtain ⟨xc,hxc⟩:∃xc,vc.ownBlock=some xc:=by
        rcases hatc with e|e
        ·exact ⟨_,e⟩
        ·exact ⟨_,e⟩
       obtain ⟨cc,ec,hcc⟩:=Js hownc hxc
       subst ec
       have hxcl:xc<wc.heap.size:=(hownc.lt xc rfl).2
       clear hownc hgc hatc hxc hBc HBB HOB HS3
       have HW2:Hid ((wc.alloc (.cells #[] 25)).ownsRow wc.heap.size 25 1 (.slice (some ⟨wc.heap.size,0,none⟩) 0 0) 0 []):=by
        have:=World.ownsRow_lit (base:=wc.heap.size) (e:=25) (size:=1) wc #[] 0 (Nat.le_refl _) (by simp[maxLen]) rfl
        simpa [Hid] using this
       have HS4:Hid (0<j→∃ad',some (⟨gl,0,none⟩:Addr)=some ad'∧∀i x,((ps.take j).map cs)[i]? =some x→(wc.alloc (.cells #[] 25)).cell? (ad'.add i)=some x):=by
        intro _
        refine ⟨_,rfl,fun i x hi=> ?_⟩
        have hij:i<j:=by have:=(List.getElem?_eq_some_iff.1 hi).1;simp at this;omega
        have ea:(⟨gl,0,none⟩:Addr).add i=⟨gl,i,none⟩:=by unfold Addr.add;split<;>simp_all
        rw[ea,Xc (HBC.out.alloc zc _) hglQ,HLQ.out.cellAt i (by omega)]
        rw[List.map_take,List.getElem?_take] at hi
        simpa [hij] using hi
       go_wp2_with (at_builtin;refine Ye rfl _ _ 28 rfl wc.heap.size 25 i2 (.slice none 0 0) 1 24 Tryz.underlying28 hi2 hzz2 hs2 hy2 rfl (by decide) _ 0 [] rfl HW2.out (some ⟨gl,0,none⟩) j cl ((ps.take j).map cs) rfl ?c1 HS4.out ?c2 ?c3 ?c4 ?c5 ?_)
       case c1=>simp[HLN.out.2];omega
       case c2=>exact HON.out _ (fun i hi=>Nat.lt_of_lt_of_le (HPM.out i (List.mem_of_mem_take hi)) hk)
       case c3=>unfold maxLen;omega
       case c4=>omega
       case c5=>simp
       intro vd wd hownd hgd hatd
       (try simp only[Nat.zero_add,List.nil_append] at hownd)
       have hBd:Below wc.heap.size wc wd:=((Below.refl wc.heap.size wc).alloc (Nat.le_refl _) _).grown hgd (by simp) (fun r hr=>by simp[Value.ownBlock] at hr;omega)
       have zd:=hBd.size
       have hud:wd.cell? ⟨bu,ou+k,none⟩=some (.slice ax nx cx):=(Xc hBd (by omega)).trans ((Xc HBC.out (by omega)).trans HUK.out)
       have HBD:=Xa hBd
       have HOD:=Xa hownd
       obtain ⟨xd,hxd⟩:∃xd,vd.ownBlock=some xd:=by
        rcases hatd with e|e
        ·exact ⟨_,e⟩
        ·exact ⟨_,e⟩
       obtain ⟨cd,ed,_⟩:=Js hownd hxd
       subst ed
       clear hownd hgd hatd hxd hBd HW2 HS4
       go_wp2_with (at_builtin;refine wpList_append_own_at _ rfl _ _ 28 rfl wc.heap.size 25 i2 (.slice none 0 0) 1 24 Tryz.underlying28 hi2 hzz2 hs2 hy2 rfl (by decide) _ _ _ rfl (HOD.out.alloc _) ⟨wd.heap.size,0,none⟩ 1 1 [.slice ax nx cx] rfl rfl ?c1 ?c2 ?c3 ?c4 ?c5 ?_)
       case c1=>exact cell_one_new _ _ _
       case c2=>intro u hu;simp at hu;subst hu;rfl
       case c3=>unfold maxLen;omega
       case c4=>omega
       case c5=>simp;omega
       intro ve we howne hge hne hate
       have hBe:Below wc.heap.size wc we:=(HBD.out.alloc zd _).grown hge (by simp;omega) (fun r hr=>(HOD.out.lt r hr).1)
       have ze:=hBe.size
       have HBE:=Xa hBe
       have HOE:=Xa howne
       obtain ⟨xe,hxe⟩:∃xe,ve.ownBlock=some xe:=by
        rcases hate with e|e
        ·exact ⟨_,e⟩
        ·exact ⟨_,e⟩
       obtain ⟨ce,ee,_⟩:=Js howne hxe
       subst ee
       clear howne hge hne hate hxe hBe HBD HOD hud
       have HS6:Hid (0<k-j→∃ad',some ad2=some ad'∧∀i x,((ps.drop j).map cs)[i]? =some x→we.cell? (ad'.add i)=some x):=by
        intro hp
        refine ⟨_,rfl,fun i x hi=> ?_⟩
        have hij:i<k-j:=by have:=(List.getElem?_eq_some_iff.1 hi).1;simp[HLN.out.2] at this;omega
        rw[HA2.out (by omega) hcl]
        have ea:(⟨gl,j,none⟩:Addr).add i=⟨gl,j+i,none⟩:=by unfold Addr.add;split<;>simp_all
        rw[ea,Xc HBE.out (by omega),Xc HBC.out hglQ,HLQ.out.cellAt (j+i) (by omega)]
        rw[List.map_drop,List.getElem?_drop] at hi
        exact hi
       go_wp2_with (at_builtin;refine Ye rfl _ _ 28 rfl wc.heap.size 25 i2 (.slice none 0 0) 1 24 Tryz.underlying28 hi2 hzz2 hs2 hy2 rfl (by decide) _ (j+1) _ rfl HOE.out (some ad2) (k-j) (cl-j) ((ps.drop j).map cs) rfl ?c1 HS6.out ?c2 ?c3 ?c4 ?c5 ?_)
       case c1=>simp[HLN.out.2]
       case c2=>exact HON.out _ (fun i hi=>Nat.lt_of_lt_of_le (HPM.out i (List.mem_of_mem_drop hi)) hk)
       case c3=>unfold maxLen;omega
       case c4=>omega
       case c5=>exact ze
       intro vf wf hownf hgf hatf
       have hBf:Below wc.heap.size wc wf:=HBE.out.grown hgf ze (fun r hr=>(HOE.out.lt r hr).1)
       have zf:=hBf.size
       rw[HKJ.out] at hownf
       have HOF:Hid (wf.ownsRow wc.heap.size 25 1 vf (k+1) ((ps.take j++ [k]++ps.drop j).map cs)):=by rw[Hid];simpa [List.map_append,List.map_take,List.map_drop,HCX.out] using hownf
       obtain ⟨xf,hxf⟩:∃xf,vf.ownBlock=some xf:=by
        rcases hatf with e|e
        ·exact ⟨_,e⟩
        ·exact ⟨_,e⟩
       obtain ⟨cf,ef,hcf⟩:=Js hownf hxf
       subst ef
       have hxfl:xf<wf.heap.size:=(hownf.lt xf rfl).2
       have HOC2:Hid (wf.ownsRow w.heap.size 9 1 (.slice (some ⟨xc,0,none⟩) (k+1) cc) (k+1) ((ns.take j++ [key]++ns.drop j).map Value.string)):=Qc (Z2 HOC.out hBf (fun y hy=>(HOC.out.lt y hy).2)) zw
       have HOF2:=Xa (Qc HOF.out (show w.heap.size≤wc.heap.size by omega))
       have HBF:=Xa (HBQ.out.trans ((HBC.out.trans (hBf.mono zc)).mono zw))
       have hSI:=HSI.out
       rw[HKEY.out] at hSI
       have HSI2:=Xa hSI
       clear hownf hgf hatf hxf hBf HBE HOE HS6 hSI
       go_wp2_with fail
       go_roundw
       case rel=>exact ⟨k+1,xc,xf,cc,cf,_,_,by omega,by go_num,rfl,rfl,hcc,hcf,by omega,hxfl,HSI2.out,HOC2.out,HOF2.out,HBF.out⟩
       case measure=>simp[intOf];omega
     ·have hle':Op.bytesLess (Xh ns j).toList key.toList=true:=hle
      have HLT2:Hid (∀t,t<j+1→Y9 (Xh ns t) key=true):=fun t ht=>by
       by_cases e:t=j
       ·subst e;exact hle
       ·exact HLT.out t (by omega)
      clear hle
      go_wp2_with fail
      go_quiet (fail)
      go_wp2_with fail
      go_roundw
      case rel=>exact ⟨j+1,by omega,by go_num,HLT2.out,below_drewN hbq nq⟩
      case measure=>simp[intOf];omega
    ·skip
     have HPO:Hid (Z4 ns key=j):=Xgv (by rw[HLN.out.1];exact hjk) HLT.out (fun h=>absurd h (by rw[HLN.out.1];omega))
     have HNO:Hid (Y5 ns key=false):=by rw[Hid,Xtb HPO.out,HLN.out.1];simp[hj]
     go_wp2_with fail
     go_quiet (fail)
     have hbq1:=below_drewN hbq nq
     generalize wr.drewN nq=W1 at hbq1⊢
     clear nq dk0
     go_wp2_with fail
     go_quiet (fail)
     have hbQ:=below_drewN hbq1 nq
     generalize W1.drewN nq=WQ at hbQ⊢
     clear nq hbq1
     -- the key and the row are put in their place
     have zq:=hbQ.size
     have zw:w.heap.size≤WQ.heap.size:=Nat.le_trans zs zq
     have hgnQ:gn<WQ.heap.size:=by omega
     have hglQ:gl<WQ.heap.size:=by omega
     have HNQ:=Xa (Z2 HN.out hbQ (fun y hy=>(HN.out.lt y hy).2))
     have HLQ:=Xa (Z2 HL.out hbQ (fun y hy=>(HL.out.lt y hy).2))
     have HBQ:=Xa (hbl.trans (hbQ.mono zs))
     obtain ⟨bu,ou,rfl,hbu,hcu⟩:=HCU.out (by omega)
     have HUK:=Xa ((Xc HBQ.out (show bu<w.heap.size by omega)).trans (hcu k hlt))
     obtain ⟨ax,nx,cx,hcx⟩:=HCS.out k hlt
     have HCX:=Xa hcx
     rw[hcx] at HUK
     have HKK:Hid (WQ.cell? ⟨bk,ok+k,none⟩=some (.string key)):=(Xc hbQ (by omega)).trans ck0
     obtain ⟨ad1,hf1,ha1⟩:=Xl1 gn k cn j hjk
     obtain ⟨ad2,hf2,ha2⟩:=Xl2 gl k cl j hjk
     have hz1:=Xtf gn k cn j (by omega)
     have hz2:=Xtg gl k cl j (by omega)
     have HA1:=Xa ha1
     have HA2:=Xa ha2
     have HSI:Hid (Ze ks (k+1)=some (ns.take j++ [Xh ks k]++ns.drop j,ps.take j++ [k]++ps.drop j)):=Xei HSO.out (by rw[HKEY.out];exact HPO.out) (by rw[HKEY.out];exact HNO.out)
     have hkm:k≤1048576:=by omega
     have hkj:j+1+(k-j)=k+1:=by omega
     have HKJ:=Xa hkj
     clear hcu hcx ha1 ha2 hkj hbQ
     have HS1:Hid (0<j→∃ad',some (⟨gn,0,none⟩:Addr)=some ad'∧∀i x,((ns.take j).map Value.string)[i]? =some x→(WQ.alloc (.cells #[] 9)).cell? (ad'.add i)=some x):=by
      intro _
      refine ⟨_,rfl,fun i x hi=> ?_⟩
      have hij:i<j:=by have:=(List.getElem?_eq_some_iff.1 hi).1;simp at this;omega
      have ea:(⟨gn,0,none⟩:Addr).add i=⟨gn,i,none⟩:=by unfold Addr.add;split<;>simp_all
      rw[ea,Xc ((Below.refl WQ.heap.size WQ).alloc (Nat.le_refl _) _) hgnQ,HNQ.out.cellAt i (by omega)]
      rw[List.map_take,List.getElem?_take] at hi
      simpa [hij] using hi
     have HW1:Hid ((WQ.alloc (.cells #[] 9)).ownsRow WQ.heap.size 9 1 (.slice (some ⟨WQ.heap.size,0,none⟩) 0 0) 0 []):=by
      have:=World.ownsRow_lit (base:=WQ.heap.size) (e:=9) (size:=1) WQ #[] 0 (Nat.le_refl _) (by simp[maxLen]) rfl
      simpa [Hid] using this
     go_wp2_with (at_builtin;refine Ye rfl _ _ 72 rfl WQ.heap.size 9 i1 (.string ByteArray.empty) 1 16 Tryz.underlying72 hi1 hzz1 hs1 hy1 rfl (by decide) _ 0 [] rfl HW1.out (some ⟨gn,0,none⟩) j cn ((ns.take j).map Value.string) rfl ?c1 HS1.out ?c2 ?c3 ?c4 ?c5 ?_)
     case c1=>simp[HLN.out.1];omega
     case c2=>exact Xd7 _
     case c3=>unfold maxLen;omega
     case c4=>omega
     case c5=>simp
     intro va wa howna hga hata
     (try simp only[Nat.zero_add,List.nil_append] at howna)
     have hBa:Below WQ.heap.size WQ wa:=((Below.refl WQ.heap.size WQ).alloc (Nat.le_refl _) _).grown hga (by simp) (fun r hr=>by simp[Value.ownBlock] at hr;omega)
     have za:=hBa.size
     have hka:wa.cell? ⟨bk,ok+k,none⟩=some (.string key):=(Xc hBa (by omega)).trans HKK.out
     have HBA:=Xa hBa
     have HOA:=Xa howna
     obtain ⟨xa,hxa⟩:∃xa,va.ownBlock=some xa:=by
      rcases hata with e|e
      ·exact ⟨_,e⟩
      ·exact ⟨_,e⟩
     obtain ⟨ca,ea,_⟩:=Js howna hxa
     subst ea
     clear howna hga hata hxa hBa HW1 HS1
     go_wp2_with (at_builtin;refine wpList_append_own_at _ rfl _ _ 72 rfl WQ.heap.size 9 i1 (.string ByteArray.empty) 1 16 Tryz.underlying72 hi1 hzz1 hs1 hy1 rfl (by decide) _ _ _ rfl (HOA.out.alloc _) ⟨wa.heap.size,0,none⟩ 1 1 [.string key] rfl rfl ?c1 ?c2 ?c3 ?c4 ?c5 ?_)
     case c1=>exact cell_one_new _ _ _
     case c2=>intro u hu;simp at hu;subst hu;rfl
     case c3=>unfold maxLen;omega
     case c4=>omega
     case c5=>simp;omega
     intro vb wb hownb hgb hnb hatb
     have hBb:Below WQ.heap.size WQ wb:=(HBA.out.alloc za _).grown hgb (by simp;omega) (fun r hr=>(HOA.out.lt r hr).1)
     have zb:=hBb.size
     have HBB:=Xa hBb
     have HOB:=Xa hownb
     obtain ⟨xb,hxb⟩:∃xb,vb.ownBlock=some xb:=by
      rcases hatb with e|e
      ·exact ⟨_,e⟩
      ·exact ⟨_,e⟩
     obtain ⟨cb,eb,_⟩:=Js hownb hxb
     subst eb
     clear hownb hgb hnb hatb hxb hBb HBA HOA hka
     have HS3:Hid (0<k-j→∃ad',some ad1=some ad'∧∀i x,((ns.drop j).map Value.string)[i]? =some x→wb.cell? (ad'.add i)=some x):=by
      intro hp
      refine ⟨_,rfl,fun i x hi=> ?_⟩
      have hij:i<k-j:=by have:=(List.getElem?_eq_some_iff.1 hi).1;simp[HLN.out.1] at this;omega
      rw[HA1.out (by omega) hcn]
      have ea:(⟨gn,j,none⟩:Addr).add i=⟨gn,j+i,none⟩:=by unfold Addr.add;split<;>simp_all
      rw[ea,Xc HBB.out hgnQ,HNQ.out.cellAt (j+i) (by omega)]
      rw[List.map_drop,List.getElem?_drop] at hi
      exact hi
     go_wp2_with (at_builtin;refine Ye rfl _ _ 72 rfl WQ.heap.size 9 i1 (.string ByteArray.empty) 1 16 Tryz.underlying72 hi1 hzz1 hs1 hy1 rfl (by decide) _ (j+1) _ rfl HOB.out (some ad1) (k-j) (cn-j) ((ns.drop j).map Value.string) rfl ?c1 HS3.out ?c2 ?c3 ?c4 ?c5 ?_)
     case c1=>simp[HLN.out.1]
     case c2=>exact Xd7 _
     case c3=>unfold maxLen;omega
     case c4=>omega
     case c5=>exact zb
     intro vc wc hownc hgc hatc
     have hBc:Below WQ.heap.size WQ wc:=HBB.out.grown hgc zb (fun r hr=>(HOB.out.lt r hr).1)
     have zc:=hBc.size
     have HBC:=Xa hBc
     rw[HKJ.out] at hownc
     have HOC:Hid (wc.ownsRow WQ.heap.size 9 1 vc (k+1) ((ns.take j++ [key]++ns.drop j).map Value.string)):=by rw[Hid];simpa [List.map_append,List.map_take,List.map_drop] using hownc
     obtain ⟨xc,hxc⟩:∃xc,vc.ownBlock=some xc:=by
      rcases hatc with e|e
      ·exact ⟨_,e⟩
      ·exact ⟨_,e⟩
     obtain ⟨cc,ec,hcc⟩:=Js hownc hxc
     subst ec
     have hxcl:xc<wc.heap.size:=(hownc.lt xc rfl).2
     clear hownc hgc hatc hxc hBc HBB HOB HS3
     have HW2:Hid ((wc.alloc (.cells #[] 25)).ownsRow wc.heap.size 25 1 (.slice (some ⟨wc.heap.size,0,none⟩) 0 0) 0 []):=by
      have:=World.ownsRow_lit (base:=wc.heap.size) (e:=25) (size:=1) wc #[] 0 (Nat.le_refl _) (by simp[maxLen]) rfl
      simpa [Hid] using this
     have HS4:Hid (0<j→∃ad',some (⟨gl,0,none⟩:Addr)=some ad'∧∀i x,((ps.take j).map cs)[i]? =some x→(wc.alloc (.cells #[] 25)).cell? (ad'.add i)=some x):=by
      intro _
      refine ⟨_,rfl,fun i x hi=> ?_⟩
      have hij:i<j:=by have:=(List.getElem?_eq_some_iff.1 hi).1;simp at this;omega
      have ea:(⟨gl,0,none⟩:Addr).add i=⟨gl,i,none⟩:=by unfold Addr.add;split<;>simp_all
      rw[ea,Xc (HBC.out.alloc zc _) hglQ,HLQ.out.cellAt i (by omega)]
      rw[List.map_take,List.getElem?_take] at hi
      simpa [hij] using hi
     go_wp2_with (at_builtin;refine Ye rfl _ _ 28 rfl wc.heap.size 25 i2 (.slice none 0 0) 1 24 Tryz.underlying28 hi2 hzz2 hs2 hy2 rfl (by decide) _ 0 [] rfl HW2.out (some ⟨gl,0,none⟩) j cl ((ps.take j).map cs) rfl ?c1 HS4.out ?c2 ?c3 ?c4 ?c5 ?_)
     case c1=>simp[HLN.out.2];omega
     case c2=>exact HON.out _ (fun i hi=>Nat.lt_of_lt_of_le (HPM.out i (List.mem_of_mem_take hi)) hk)
     case c3=>unfold maxLen;omega
     case c4=>omega
     case c5=>simp
     intro vd wd hownd hgd hatd
     (try simp only[Nat.zero_add,List.nil_append] at hownd)
     have hBd:Below wc.heap.size wc wd:=((Below.refl wc.heap.size wc).alloc (Nat.le_refl _) _).grown hgd (by simp) (fun r hr=>by simp[Value.ownBlock] at hr;omega)
     have zd:=hBd.size
     have hud:wd.cell? ⟨bu,ou+k,none⟩=some (.slice ax nx cx):=(Xc hBd (by omega)).trans ((Xc HBC.out (by omega)).trans HUK.out)
     have HBD:=Xa hBd
     have HOD:=Xa hownd
     obtain ⟨xd,hxd⟩:∃xd,vd.ownBlock=some xd:=by
      rcases hatd with e|e
      ·exact ⟨_,e⟩
      ·exact ⟨_,e⟩
     obtain ⟨cd,ed,_⟩:=Js hownd hxd
     subst ed
     clear hownd hgd hatd hxd hBd HW2 HS4
     go_wp2_with (at_builtin;refine wpList_append_own_at _ rfl _ _ 28 rfl wc.heap.size 25 i2 (.slice none 0 0) 1 24 Tryz.underlying28 hi2 hzz2 hs2 hy2 rfl (by decide) _ _ _ rfl (HOD.out.alloc _) ⟨wd.heap.size,0,none⟩ 1 1 [.slice ax nx cx] rfl rfl ?c1 ?c2 ?c3 ?c4 ?c5 ?_)
     case c1=>exact cell_one_new _ _ _
     case c2=>intro u hu;simp at hu;subst hu;rfl
     case c3=>unfold maxLen;omega
     case c4=>omega
     case c5=>simp;omega
     intro ve we howne hge hne hate
     have hBe:Below wc.heap.size wc we:=(HBD.out.alloc zd _).grown hge (by simp;omega) (fun r hr=>(HOD.out.lt r hr).1)
     have ze:=hBe.size
     have HBE:=Xa hBe
     have HOE:=Xa howne
     obtain ⟨xe,hxe⟩:∃xe,ve.ownBlock=some xe:=by
      rcases hate with e|e
      ·exact ⟨_,e⟩
      ·exact ⟨_,e⟩
     obtain ⟨ce,ee,_⟩:=Js howne hxe
     subst ee
     clear howne hge hne hate hxe hBe HBD HOD hud
     have HS6:Hid (0<k-j→∃ad',some ad2=some ad'∧∀i x,((ps.drop j).map cs)[i]? =some x→we.cell? (ad'.add i)=some x):=by
      intro hp
      refine ⟨_,rfl,fun i x hi=> ?_⟩
      have hij:i<k-j:=by have:=(List.getElem?_eq_some_iff.1 hi).1;simp[HLN.out.2] at this;omega
      rw[HA2.out (by omega) hcl]
      have ea:(⟨gl,j,none⟩:Addr).add i=⟨gl,j+i,none⟩:=by unfold Addr.add;split<;>simp_all
      rw[ea,Xc HBE.out (by omega),Xc HBC.out hglQ,HLQ.out.cellAt (j+i) (by omega)]
      rw[List.map_drop,List.getElem?_drop] at hi
      exact hi
     go_wp2_with (at_builtin;refine Ye rfl _ _ 28 rfl wc.heap.size 25 i2 (.slice none 0 0) 1 24 Tryz.underlying28 hi2 hzz2 hs2 hy2 rfl (by decide) _ (j+1) _ rfl HOE.out (some ad2) (k-j) (cl-j) ((ps.drop j).map cs) rfl ?c1 HS6.out ?c2 ?c3 ?c4 ?c5 ?_)
     case c1=>simp[HLN.out.2]
     case c2=>exact HON.out _ (fun i hi=>Nat.lt_of_lt_of_le (HPM.out i (List.mem_of_mem_drop hi)) hk)
     case c3=>unfold maxLen;omega
     case c4=>omega
     case c5=>exact ze
     intro vf wf hownf hgf hatf
     have hBf:Below wc.heap.size wc wf:=HBE.out.grown hgf ze (fun r hr=>(HOE.out.lt r hr).1)
     have zf:=hBf.size
     rw[HKJ.out] at hownf
     have HOF:Hid (wf.ownsRow wc.heap.size 25 1 vf (k+1) ((ps.take j++ [k]++ps.drop j).map cs)):=by rw[Hid];simpa [List.map_append,List.map_take,List.map_drop,HCX.out] using hownf
     obtain ⟨xf,hxf⟩:∃xf,vf.ownBlock=some xf:=by
      rcases hatf with e|e
      ·exact ⟨_,e⟩
      ·exact ⟨_,e⟩
     obtain ⟨cf,ef,hcf⟩:=Js hownf hxf
     subst ef
     have hxfl:xf<wf.heap.size:=(hownf.lt xf rfl).2
     have HOC2:Hid (wf.ownsRow w.heap.size 9 1 (.slice (some ⟨xc,0,none⟩) (k+1) cc) (k+1) ((ns.take j++ [key]++ns.drop j).map Value.string)):=Qc (Z2 HOC.out hBf (fun y hy=>(HOC.out.lt y hy).2)) zw
     have HOF2:=Xa (Qc HOF.out (show w.heap.size≤wc.heap.size by omega))
     have HBF:=Xa (HBQ.out.trans ((HBC.out.trans (hBf.mono zc)).mono zw))
     have hSI:=HSI.out
     rw[HKEY.out] at hSI
     have HSI2:=Xa hSI
     clear hownf hgf hatf hxf hBf HBE HOE HS6 hSI
     go_wp2_with fail
     go_roundw
     case rel=>exact ⟨k+1,xc,xf,cc,cf,_,_,by omega,by go_num,rfl,rfl,hcc,hcf,by omega,hxfl,HSI2.out,HOC2.out,HOF2.out,HBF.out⟩
     case measure=>simp[intOf];omega
  ·obtain rfl:k=m:=by omega
   have HLN2:=Xa HLN.out
   go_wp2_with fail
   go_ret3
   exact ⟨by rw[HSO.out];exact ⟨_,_,rfl,by rw[HLN.out.1];exact HN.out,by rw[HLN.out.2];exact HL.out⟩,hbl⟩
end Go.Proofs.YtdjddneidbddpaaGreatDoor
