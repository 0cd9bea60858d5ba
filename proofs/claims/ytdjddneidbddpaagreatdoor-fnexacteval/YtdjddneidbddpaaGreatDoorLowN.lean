import Derived.Test.YtdjddneidbddpaaGreatDoorIMinA
import Derived.Test.YtdjddneidbddpaaGreatDoorEqS2
import Derived.Test.YtdjddneidbddpaaGreatDoorByP
import Derived.Test.YtdjddneidbddpaaGreatDoorSpc3
namespace Go.Proofs.YtdjddneidbddpaaGreatDoor
set_option linter.unusedSectionVars false
set_option maxHeartbeats 6400000
open Go.RowKit
set_option linter.unusedSimpArgs false
set_option linter.unusedVariables false
theorem Xbg {s N k:Nat} {w W0 W:World} {vs:List VN} {VV:Nat->Value} {u:Value} (hrow:W.rowIs s 52 N (W9 VV k)) (hall:∀j,j<k->ValIs s W0.heap.size W0 vs (j+1) j (VV j)) (hk:Keep s W0.heap.size W0 W) (hsz:W0.heap.size<=W.heap.size) (hs:s<W0.heap.size) (hb:Below s w W)
  (hv:ValIs s W.heap.size W vs (k+1) k u):
  (W.setCell ⟨s,k,none⟩ u).rowIs s 52 N (W9 (fun j=>if j=k then u else VV j) (k+1))/\(∀j,j<k+1->ValIs s (W.setCell ⟨s,k,none⟩ u).heap.size (W.setCell ⟨s,k,none⟩ u) vs (j+1) j (if j=k then u else VV j))/\Below s w (W.setCell ⟨s,k,none⟩ u):=by
 have b:(W.setCell ⟨s,k,none⟩ u).heap.size=W.heap.size:=World.size_setCell _ _ _
 refine ⟨Xul hrow,fun j hj=> ?_,hb.setCell (Nat.le_refl _) _⟩
 by_cases e:j=k
 ·subst e
  rw[if_pos rfl]
  exact ValIs.keep (Keep.setCell W u) (by omega) (by omega) hv
 ·rw[if_neg e]
  exact ValIs.keep (hk.trans (Keep.setCell W u)) (by omega) (by omega) (hall j (by omega))
set_option maxRecDepth 100000 in
theorem Xfq (B:Nat) (v:Value) (vs:List VN) (w:World) (h:NodesAt B w v vs) (hB:B<=w.heap.size) (hn1:1<=vs.length) (hn80:vs.length<=80) (hok:∀k,k<vs.length->Xz (Xb vs k)=true/\Z7 vs k=true) (hkn:∀k,k<vs.length->(Xb vs k).kids.length<=k):
  Calls Tryz.prog 59 #[v] w fun e w'=>∃VV:Nat->Value,e= .returned (.slice (some ⟨w.heap.size,0,none⟩) vs.length vs.length)/\
   w'.rowIs w.heap.size 52 vs.length VV/\(∀j,j<vs.length->ValIs w.heap.size w'.heap.size w' vs (j+1) j (VV j))/\Below w.heap.size w w':=by
 obtain ⟨b5,a,b7,rfl,M⟩:=h
 obtain ⟨b0,o0,rfl,bs,hc⟩:=M (by omega)
 clear M
 have bc:=Xa hok
 have HC:=Xa hc
 clear hok hc
 have bt:=run_make_row' (P:=Tryz.prog) 58 52 .nilIface 16 Tryz.underlying58 Xbf rfl .i64 .i64 vs.length (by omega) (by omega)
 obtain ⟨i0,hi,bu,bv,bw⟩:=info_parts Xbf
 go_enter Tryz.func59,Tryz.ntmps59
 go_wp2_with fail
 clear bt
 have bg:(w.alloc (.cells (madeCells #[Value.nilIface] vs.length) 52)).rowIs w.heap.size 52 vs.length (W9 (fun _=>undef) 0):=(World.rowIs_made w _ _ _).congr fun i _=>by simp[W9]
 have bh:Below w.heap.size w (w.alloc (.cells (madeCells #[Value.nilIface] vs.length) 52)):=(Below.refl _ _).alloc (Nat.le_refl _) _
 go_loopw [14] (fun i wr=>∃(k:Nat) (VV:Nat->Value),k<=vs.length/\i= .int .i64 k/\wr.rowIs w.heap.size 52 vs.length (W9 VV k)/\(∀j,j<k->ValIs w.heap.size wr.heap.size wr vs (j+1) j (VV j))/\Below w.heap.size w wr) (fun i _=>vs.length-(intOf i).toNat)
 case atStart=>exact ⟨0,_,Nat.zero_le _,rfl,bg,fun j hj=>by omega,bh⟩
 case round =>
  obtain ⟨k,VV,hk,rfl,C,Z,D⟩:=hrel
  obtain ⟨d,rfl⟩:∃d,d=wr:=⟨_,rfl⟩
  have V:=Xa Z
  clear Z bg bh
  by_cases hlt:k<vs.length
  ·obtain ⟨ka,ki,hn⟩:=HC.out k hlt
   have p:=hn.below (D.mono hB) bs
   have c0:=p.c0
   have c1:=p.c1
   have c2:=p.c2
   have c3:=p.c3
   have c4:=p.c4
   have bd:=D.size
   have l:=C.lt
   have HK:=Xa hn.inn.keys
   obtain ⟨_,_,J,L,eK,_⟩:=p.inn.keys
   obtain ⟨b8,b9,aI,cI,eI,bi⟩:=p.inn.kids
   subst eK eI
   have HR:=Xa C
   clear hn p C
   go_wp2_with fail
   have x0:(d.alloc (.cells #[.int .i64 (Xb vs k).kind, .int .i64 (Xb vs k).n, .string (Xb vs k).s, .slice J (Xb vs k).keys.length L, .slice aI (Xb vs k).kids.length cI] 75)).cell? ⟨d.heap.size,0,none⟩=some (.int .i64 (Xb vs k).kind):=by simp
   have x1:(d.alloc (.cells #[.int .i64 (Xb vs k).kind, .int .i64 (Xb vs k).n, .string (Xb vs k).s, .slice J (Xb vs k).keys.length L, .slice aI (Xb vs k).kids.length cI] 75)).cell? ⟨d.heap.size,1,none⟩=some (.int .i64 (Xb vs k).n):=by simp
   have x2:(d.alloc (.cells #[.int .i64 (Xb vs k).kind, .int .i64 (Xb vs k).n, .string (Xb vs k).s, .slice J (Xb vs k).keys.length L, .slice aI (Xb vs k).kids.length cI] 75)).cell? ⟨d.heap.size,2,none⟩=some (.string (Xb vs k).s):=by simp
   have x3:(d.alloc (.cells #[.int .i64 (Xb vs k).kind, .int .i64 (Xb vs k).n, .string (Xb vs k).s, .slice J (Xb vs k).keys.length L, .slice aI (Xb vs k).kids.length cI] 75)).cell? ⟨d.heap.size,3,none⟩=some (.slice J (Xb vs k).keys.length L):=by simp
   have bj:(d.alloc (.cells #[.int .i64 (Xb vs k).kind, .int .i64 (Xb vs k).n, .string (Xb vs k).s, .slice J (Xb vs k).keys.length L, .slice aI (Xb vs k).kids.length cI] 75)).heap.size=d.heap.size+1:=by simp
   have X:Below d.heap.size d (d.alloc (.cells #[.int .i64 (Xb vs k).kind, .int .i64 (Xb vs k).n, .string (Xb vs k).s, .slice J (Xb vs k).keys.length L, .slice aI (Xb vs k).kids.length cI] 75)):=(Below.refl _ _).alloc (Nat.le_refl _) _
   have bk:=Xa (HR.out.alloc (.cells #[.int .i64 (Xb vs k).kind, .int .i64 (Xb vs k).n, .string (Xb vs k).s, .slice J (Xb vs k).keys.length L, .slice aI (Xb vs k).kids.length cI] 75))
   generalize (d.alloc (.cells #[.int .i64 (Xb vs k).kind, .int .i64 (Xb vs k).n, .string (Xb vs k).s, .slice J (Xb vs k).keys.length L, .slice aI (Xb vs k).kids.length cI] 75))=W1 at *
   have ca:=Xa bj
   have bx:d.heap.size<W1.heap.size:=by omega
   have HX:=Xa (bl.intro x0 (bl.intro x1 (bl.intro x2 x3)))
   have bm:Below w.heap.size w W1:=D.trans (X.mono bd)
   clear bj x0 x1 x2 x3 c0 c1 c2 c3 c4
   go_loopw [6,22] (fun it i wr=>∃c:Nat,c<=(Xb vs k).kids.length/\i= .int .i64 c/\wr.ownsRow W1.heap.size 52 1 it c ((List.range c).map fun j=>VV (Xj (Xb vs k).kids j).toNat)/\Below W1.heap.size W1 wr) (fun _ i _=>(Xb vs k).kids.length-(intOf i).toNat)
   case atStart=>exact ⟨0,Nat.zero_le _,rfl,World.ownsRow_nil _ _ _ _,Below.refl _ _⟩
   case round=>
    obtain ⟨c,cb,rfl,y,b⟩:=hrel
    by_cases hcc:c<(Xb vs k).kids.length
    ·obtain ⟨b1,o1,rfl,b6,ba⟩:=bi (by omega)
     have bn:=Zw (bc.out k hlt).2 hcc
     obtain ⟨q,hq⟩:∃q:Nat,Xj (Xb vs k).kids c=(q:Int):=⟨(Xj (Xb vs k).kids c).toNat,by omega⟩
     have bo:q<k:=by omega
     have cc:wr.cell? ⟨b1,o1+c,none⟩=some (.int .i64 (q:Int)):=by
      rw[<-hq];exact (Xc b (by omega)).trans ((Xc X (by omega)).trans (ba c hcc))
     obtain ⟨tq,xq,be⟩:=(V.out q bo).iface
     have cd:wr.cell? ⟨w.heap.size,q,none⟩=some (.iface tq xq):=by
      refine (Xc b (by omega)).trans ?_
      rw[bk.out.cell (by omega),W9,if_pos bo,be]
     have ce:(q:Int)<(vs.length:Int):=by omega
     have HQ:Hid ((List.range (c+1)).map (fun j=>VV (Xj (Xb vs k).kids j).toNat)=(List.range c).map (fun j=>VV (Xj (Xb vs k).kids j).toNat)++ [.iface tq xq]):=by
      rw[Hid,List.range_succ,List.map_append]
      simp[hq,be]
     have bb:=b.size
     have bz:=Xa b
     have cf:(Xb vs k).kids.length<=80:=by have:=hkn k hlt;omega
     clear bi ba hq bn be
     go_wp2_with (at_builtin;refine wpList_append_own _ rfl _ _ 58 rfl W1.heap.size 52 i0 .nilIface 1 16 Tryz.underlying58 hi bu bv bw rfl (by decide) _ _ _ rfl (y.alloc _) ⟨wr.heap.size,0,none⟩ 1 1 [.iface tq xq] rfl rfl ?c1 ?c2 ?c3 ?c4 ?c5 ?_)
     case c1=>
      intro j u hj
      match j,hj with
      |0,hj=>simp at hj;subst hj;simp[Addr.add]
     case c2=>intro u hu;simp at hu;subst hu;rfl
     case c3=>unfold maxLen;omega
     case c4=>omega
     case c5=>simp;omega
     intro v' w3 R T _
     have b2:Below W1.heap.size W1 w3:=(bz.out.alloc bb _).grown T (by simp;omega) (fun r hr=>by
      rcases y.2 with ⟨rfl,_⟩|⟨g,cp,cu,rfl,hbg,_⟩
      ·simp[Value.ownBlock] at hr
      ·simp[Value.ownBlock] at hr;omega)
     rw[<-HQ.out] at R
     clear T y
     go_wp2_with fail
     go_roundw
     case rel=>exact ⟨c+1,by omega,by go_num,R,b2⟩
     case measure=>simp[intOf];omega
    ·obtain rfl:c=(Xb vs k).kids.length:=by omega
     have bb:=b.size
     have bf:=Xa (Xov (lo:=w.heap.size) (P:=fun j u=>ValIs w.heap.size wr.heap.size wr vs k (Xj (Xb vs k).kids j).toNat u) y (by omega) (fun j hj=>by
      have bn:=Zw (bc.out k hlt).2 hj
      obtain ⟨t,x,e⟩:=(V.out (Xj (Xb vs k).kids j).toNat (by omega)).iface
      refine ⟨t,x,e, ?_⟩
      rw[<-e]
      exact ValIs.more (by omega) (ValIs.keep ((Keep.of_below (X)).trans (Keep.of_below (b.mono (by omega)))) (by omega) (by omega) (V.out _ (by omega)))))
     have bp:=bf.out
     obtain ⟨bq,br,rfl,_⟩:=bp
     have y0:wr.cell? ⟨d.heap.size,0,none⟩=some (.int .i64 (Xb vs k).kind):=(Xc b (by omega)).trans HX.out.1
     have y1:wr.cell? ⟨d.heap.size,1,none⟩=some (.int .i64 (Xb vs k).n):=(Xc b (by omega)).trans HX.out.2.1
     have y2:wr.cell? ⟨d.heap.size,2,none⟩=some (.string (Xb vs k).s):=(Xc b (by omega)).trans HX.out.2.2.1
     have y3:wr.cell? ⟨d.heap.size,3,none⟩=some (.slice J (Xb vs k).keys.length L):=(Xc b (by omega)).trans HX.out.2.2.2
     have Y:=Yx bk.out b (by omega)
     have z0:=Y.cell hlt
     have z1:=Y.frozen k
     have F:=Xa Y
     have G:Hid (Keep w.heap.size d.heap.size d wr):=(Keep.of_below (X)).trans (Keep.of_below (b.mono (by omega)))
     have z:Hid (Below w.heap.size w wr):=bm.trans (b.mono (by omega))
     have o:d.heap.size<=wr.heap.size:=by omega
     have b3:Hid (StrsAt w.heap.size wr (.slice J (Xb vs k).keys.length L) (Xb vs k).keys):=(HK.out.wide hB).below z.out
     have b4:=Xa (bc.out k hlt).1
     clear y Y
     by_cases g2:(Xb vs k).kind=2
     ·have S:=Xbg (u:= .iface 113 (.agg #[.int .i64 (Xb vs k).n])) F.out V.out G.out o l z.out (Or.inr (Or.inl ⟨g2,rfl⟩))
      have f:=Xa S
      clear S
      go_wp2_with fail
      go_roundw
      case rel=>exact ⟨k+1,_,by omega,by go_num,f.out.1,f.out.2.1,f.out.2.2⟩
      case measure=>simp[intOf];omega
     by_cases g3:(Xb vs k).kind=3
     ·have S:=Xbg (u:= .iface 114 (.agg #[.int .i64 (Xb vs k).n])) F.out V.out G.out o l z.out (Or.inr (Or.inr (Or.inl ⟨g3,rfl⟩)))
      have f:=Xa S
      clear S g2
      go_wp2_with fail
      go_roundw
      case rel=>exact ⟨k+1,_,by omega,by go_num,f.out.1,f.out.2.1,f.out.2.2⟩
      case measure=>simp[intOf];omega
     by_cases g4:(Xb vs k).kind=4
     ·have S:=Xbg (u:= .iface 116 (.agg #[.string (Xb vs k).s])) F.out V.out G.out o l z.out (Or.inr (Or.inr (Or.inr (Or.inl ⟨g4,rfl⟩))))
      have f:=Xa S
      clear S g2 g3
      go_wp2_with fail
      go_roundw
      case rel=>exact ⟨k+1,_,by omega,by go_num,f.out.1,f.out.2.1,f.out.2.2⟩
      case measure=>simp[intOf];omega
     by_cases g5:(Xb vs k).kind=5
     ·have S:=Xbg (u:= .iface 158 (.agg #[.slice bq (Xb vs k).kids.length br])) F.out V.out G.out o l z.out (Or.inr (Or.inr (Or.inr (Or.inr (Or.inl ⟨g5,_,rfl,bf.out⟩)))))
      have f:=Xa S
      clear S g2 g3 g4
      go_wp2_with fail
      go_roundw
      case rel=>exact ⟨k+1,_,by omega,by go_num,f.out.1,f.out.2.1,f.out.2.2⟩
      case measure=>simp[intOf];omega
     by_cases g6:(Xb vs k).kind=6
     ·have S:=Xbg (u:= .iface 118 (.agg #[.slice J (Xb vs k).keys.length L, .slice bq (Xb vs k).kids.length br])) F.out V.out G.out o l z.out (Or.inr (Or.inr (Or.inr (Or.inr (Or.inr ⟨g6,_,_,rfl,b3.out,bf.out⟩)))))
      have f:=Xa S
      clear S g2 g3 g4 g5
      go_wp2_with fail
      go_roundw
      case rel=>exact ⟨k+1,_,by omega,by go_num,f.out.1,f.out.2.1,f.out.2.2⟩
      case measure=>simp[intOf];omega
     ·have g1:(Xb vs k).kind=1:=by
       have:=b4.out
       unfold Xz Zi at this
       by_cases e1:(Xb vs k).kind=1
       ·exact e1
       ·simp[e1,g2,g3,g4,g5,g6] at this
      have S:=Xbg (u:= .iface 160 (.agg #[])) F.out V.out G.out o l z.out (Or.inl ⟨g1,rfl⟩)
      have f:=Xa S
      clear S g2 g3 g4 g5 g6
      go_wp2_with fail
      go_roundw
      case rel=>exact ⟨k+1,_,by omega,by go_num,f.out.1,f.out.2.1,f.out.2.2⟩
      case measure=>simp[intOf];omega
  ·obtain rfl:k=vs.length:=by omega
   go_wp2_with fail
   go_ret
   exact ⟨VV,rfl,C.congr fun i hi=>by simp[W9,hi],V.out,D⟩


theorem Xvl (w:World) (c0 c1 c2 c3 c4:Value):∀j u,[c0,c1,c2,c3,c4][j]? =some u->(w.alloc (.cells #[c0,c1,c2,c3,c4] 75)).cell? ((⟨w.heap.size,0,none⟩:Addr).add j)=some u:=
 World.news_of_block (cs:= #[c0,c1,c2,c3,c4]) (heap_alloc_new w _)
theorem Xed (w:World) (b:Nat) (c0 c1 c2 c3 c4:Value) (hb:w.heap.size=b):∀j u,[c0,c1,c2,c3,c4][j]? =some u->(w.alloc (.cells #[c0,c1,c2,c3,c4] 75)).cell? ((⟨b,0,none⟩:Addr).add j)=some u:=by
 subst hb;exact Xvl w c0 c1 c2 c3 c4
set_option maxRecDepth 100000 in
theorem Xko (base:Nat) (v:Value) (ns:List VN) (KV IV:Nat->Value) (w:World) (h:Nest base w v ns KV IV) (hb:base<=w.heap.size) (hn:ns.length<=100000):
  Calls Tryz.prog 31 #[v, .iface 160 (.agg #[])] w fun e w'=>∃v' KV' IV',e= .returned v'/\Laid base w w' v v' ns [{kind:=1,n:=0,s:=ByteArray.empty,keys:= [],kids:= []}] KV IV KV' IV':=by
 have H:=Xa h
 obtain ⟨R,S,rfl⟩:=Xg h.row
 clear h
 have t:=Xbk
 have B:=Wv
 have z:=Xbl
 have C:=Xgo
 obtain ⟨T,D,F,G,J⟩:=info_parts Kl
 go_enter Tryz.func31,Tryz.ntmps31
 go_wp2_with fail
 refine (Kz _).mono ?_
 rintro e l ⟨rfl,p⟩
 have L:=Xa p
 go_wp2_with fail
 refine (Xa2 _).mono ?_
 rintro e c ⟨rfl,g⟩
 have d:=Xa (Mid.start H.out hb L.out g)
 have Y:l.heap.size<c.heap.size:=by have:=g.size;simp at this;omega
 clear p g
 go_wp2_with fail
 have Z:c.cell? ⟨l.heap.size,0,none⟩=some (.int .i64 1):=d.out.node.cellAt 0 (by omega)
 have y1:c.cell? ⟨l.heap.size,1,none⟩=some (.int .i64 0):=d.out.node.cellAt 1 (by omega)
 have y2:c.cell? ⟨l.heap.size,2,none⟩=some (.string ⟨#[]⟩):=d.out.node.cellAt 2 (by omega)
 have y3:c.cell? ⟨l.heap.size,3,none⟩=some (.slice none 0 0):=d.out.node.cellAt 3 (by omega)
 have y4:c.cell? ⟨l.heap.size,4,none⟩=some (.slice none 0 0):=d.out.node.cellAt 4 (by omega)
 have V:=Xa (d.out.nest.row.alloc (.cells #[.int .i64 1, .int .i64 0, .string ⟨#[]⟩, .slice none 0 0, .slice none 0 0] 75))
 go_loopw [0,18] (fun o i wr=>o= .slice R ns.length S/\i= .int .i64 0/\wr=c) (fun _ _ _=>0)
 case atStart=>exact ⟨rfl,rfl,rfl⟩
 case round=>
  obtain ⟨rfl,rfl,M⟩:=hrel
  rw[M]
  clear M
  go_wp2_with (at_builtin;refine wpList_append_own_at _ rfl _ _ 25 rfl base 75 T zeroNode 5 80 Tryz.underlying25 D F G J rfl (by decide) _ _ _ rfl V.out ⟨c.heap.size,0,none⟩ 1 1 [.int .i64 1, .int .i64 0, .string ⟨#[]⟩, .slice none 0 0, .slice none 0 0] rfl rfl ?c1 ?c2 ?c3 ?c4 ?c5 ?_)
  case c1=>exact Xvl _ _ _ _ _ _
  case c2=>intro u P;simp at P;rcases P with rfl|rfl|rfl|rfl<;>rfl
  case c3=>simp[maxLen];omega
  case c4=>simp;omega
  case c5=>simp;have:=d.out.frame.size;omega
  intro v' w6 f b _ q
  have X:=Xa (Mid.fin (x:={kind:=1,n:=0,s:=⟨#[]⟩,keys:= [],kids:= []}) d.out rfl (World.ownsRow_nil _ _ _ _) (fun j _ y hy=>by simp[Value.ownBlock] at hy) (by simpa using f) b q)
  clear f b q
  go_wp2_with fail
  go_ret
  exact ⟨_,_,_,rfl,X.out⟩
set_option maxRecDepth 100000 in
theorem Xkp (n:Int) (base:Nat) (v:Value) (ns:List VN) (KV IV:Nat->Value) (w:World) (h:Nest base w v ns KV IV) (hb:base<=w.heap.size) (hn:ns.length<=100000):
  Calls Tryz.prog 31 #[v, .iface 113 (.agg #[.int .i64 n])] w fun e w'=>∃v' KV' IV',e= .returned v'/\Laid base w w' v v' ns [{kind:=2,n:=n,s:=ByteArray.empty,keys:= [],kids:= []}] KV IV KV' IV':=by
 have H:=Xa h
 obtain ⟨L,M,rfl⟩:=Xg h.row
 clear h
 have P:=Xbm
 obtain ⟨R,z,B,C,D⟩:=info_parts Kl
 go_enter Tryz.func31,Tryz.ntmps31
 go_wp2_with fail
 refine (K3 _ _).mono ?_
 rintro e b ⟨rfl,q⟩
 have F:=Xa q
 go_wp2_with fail
 refine (Xdf _ _).mono ?_
 rintro e d ⟨rfl,l⟩
 have p:=Xa (Mid.start H.out hb F.out l)
 have X:b.heap.size<d.heap.size:=by have:=l.size;simp at this;omega
 clear q l
 go_wp2_with fail
 have Y:d.cell? ⟨b.heap.size,0,none⟩=some (.int .i64 2):=p.out.node.cellAt 0 (by omega)
 have Z:d.cell? ⟨b.heap.size,1,none⟩=some (.int .i64 0):=p.out.node.cellAt 1 (by omega)
 have y2:d.cell? ⟨b.heap.size,2,none⟩=some (.string ⟨#[]⟩):=p.out.node.cellAt 2 (by omega)
 have y3:d.cell? ⟨b.heap.size,3,none⟩=some (.slice none 0 0):=p.out.node.cellAt 3 (by omega)
 have y4:d.cell? ⟨b.heap.size,4,none⟩=some (.slice none 0 0):=p.out.node.cellAt 4 (by omega)
 have f1:d.frozen? ⟨b.heap.size,1,none⟩=false:=p.out.node.frozenAt 1
 have c:=Xa ((p.out.put 1 (.int .i64 n)).grow (World.grownBy_alloc _ (.cells #[.int .i64 n] 113) none))
 have x0:((d.setCell ⟨b.heap.size,1,none⟩ (.int .i64 n)).alloc (.cells #[.int .i64 n] 113)).cell? ⟨b.heap.size,0,none⟩=some (.int .i64 2):=c.out.node.cellAt 0 (by omega)
 have x1:((d.setCell ⟨b.heap.size,1,none⟩ (.int .i64 n)).alloc (.cells #[.int .i64 n] 113)).cell? ⟨b.heap.size,1,none⟩=some (.int .i64 n):=c.out.node.cellAt 1 (by omega)
 have x2:((d.setCell ⟨b.heap.size,1,none⟩ (.int .i64 n)).alloc (.cells #[.int .i64 n] 113)).cell? ⟨b.heap.size,2,none⟩=some (.string ⟨#[]⟩):=c.out.node.cellAt 2 (by omega)
 have x3:((d.setCell ⟨b.heap.size,1,none⟩ (.int .i64 n)).alloc (.cells #[.int .i64 n] 113)).cell? ⟨b.heap.size,3,none⟩=some (.slice none 0 0):=c.out.node.cellAt 3 (by omega)
 have x4:((d.setCell ⟨b.heap.size,1,none⟩ (.int .i64 n)).alloc (.cells #[.int .i64 n] 113)).cell? ⟨b.heap.size,4,none⟩=some (.slice none 0 0):=c.out.node.cellAt 4 (by omega)
 have S:=Xa (c.out.nest.row.alloc (.cells #[.int .i64 2, .int .i64 n, .string ⟨#[]⟩, .slice none 0 0, .slice none 0 0] 75))
 have T:=Xa c.out.frame.size
 go_loopw [0,18] (fun o i wr=>o= .slice L ns.length M/\i= .int .i64 0/\wr=d) (fun _ _ _=>0)
 case atStart=>exact ⟨rfl,rfl,rfl⟩
 case round=>
  obtain ⟨rfl,rfl,G⟩:=hrel
  rw[G]
  clear G
  go_wp2_with (at_builtin;refine wpList_append_own_at _ rfl _ _ 25 rfl base 75 R zeroNode 5 80 Tryz.underlying25 z B C D rfl (by decide) _ _ _ rfl S.out ⟨d.heap.size+1,0,none⟩ 1 1 [.int .i64 2, .int .i64 n, .string ⟨#[]⟩, .slice none 0 0, .slice none 0 0] rfl rfl ?c1 ?c2 ?c3 ?c4 ?c5 ?_)
  case c1=>exact Xed _ _ _ _ _ _ _ (by simp)
  case c2=>intro u J;simp at J;rcases J with rfl|rfl|rfl|rfl|rfl<;>rfl
  case c3=>simp[maxLen];omega
  case c4=>simp;omega
  case c5=>have:=T.out;simp at this|-;omega
  intro v' w6 g f _ t
  have V:=Xa (Mid.fin (x:={kind:=2,n:=n,s:=⟨#[]⟩,keys:= [],kids:= []}) c.out rfl (World.ownsRow_nil _ _ _ _) (fun j _ y hy=>by simp[Value.ownBlock] at hy) (by simpa using g) f (by simpa using t))
  clear g f t
  go_wp2_with fail
  go_ret
  exact ⟨_,_,_,rfl,V.out⟩
set_option maxRecDepth 100000 in
theorem Xmj (n:Int) (base:Nat) (v:Value) (ns:List VN) (KV IV:Nat->Value) (w:World) (h:Nest base w v ns KV IV) (hb:base<=w.heap.size) (hn:ns.length<=100000):
  Calls Tryz.prog 31 #[v, .iface 114 (.agg #[.int .i64 n])] w fun e w'=>∃v' KV' IV',e= .returned v'/\Laid base w w' v v' ns [{kind:=3,n:=n,s:=ByteArray.empty,keys:= [],kids:= []}] KV IV KV' IV':=by
 have H:=Xa h
 obtain ⟨L,M,rfl⟩:=Xg h.row
 clear h
 have P:=Xco
 have R:=Ga
 obtain ⟨S,z,B,C,D⟩:=info_parts Kl
 go_enter Tryz.func31,Tryz.ntmps31
 go_wp2_with fail
 refine (K4 _ _).mono ?_
 rintro e b ⟨rfl,q⟩
 have F:=Xa q
 go_wp2_with fail
 refine (Xdg _ _).mono ?_
 rintro e d ⟨rfl,l⟩
 have p:=Xa (Mid.start H.out hb F.out l)
 have Y:b.heap.size<d.heap.size:=by have:=l.size;simp at this;omega
 clear q l
 go_wp2_with fail
 have Z:d.cell? ⟨b.heap.size,0,none⟩=some (.int .i64 3):=p.out.node.cellAt 0 (by omega)
 have y1:d.cell? ⟨b.heap.size,1,none⟩=some (.int .i64 0):=p.out.node.cellAt 1 (by omega)
 have y2:d.cell? ⟨b.heap.size,2,none⟩=some (.string ⟨#[]⟩):=p.out.node.cellAt 2 (by omega)
 have y3:d.cell? ⟨b.heap.size,3,none⟩=some (.slice none 0 0):=p.out.node.cellAt 3 (by omega)
 have y4:d.cell? ⟨b.heap.size,4,none⟩=some (.slice none 0 0):=p.out.node.cellAt 4 (by omega)
 have f1:d.frozen? ⟨b.heap.size,1,none⟩=false:=p.out.node.frozenAt 1
 have c:=Xa ((p.out.put 1 (.int .i64 n)).grow (World.grownBy_alloc _ (.cells #[.int .i64 n] 114) none))
 have x0:((d.setCell ⟨b.heap.size,1,none⟩ (.int .i64 n)).alloc (.cells #[.int .i64 n] 114)).cell? ⟨b.heap.size,0,none⟩=some (.int .i64 3):=c.out.node.cellAt 0 (by omega)
 have x1:((d.setCell ⟨b.heap.size,1,none⟩ (.int .i64 n)).alloc (.cells #[.int .i64 n] 114)).cell? ⟨b.heap.size,1,none⟩=some (.int .i64 n):=c.out.node.cellAt 1 (by omega)
 have x2:((d.setCell ⟨b.heap.size,1,none⟩ (.int .i64 n)).alloc (.cells #[.int .i64 n] 114)).cell? ⟨b.heap.size,2,none⟩=some (.string ⟨#[]⟩):=c.out.node.cellAt 2 (by omega)
 have x3:((d.setCell ⟨b.heap.size,1,none⟩ (.int .i64 n)).alloc (.cells #[.int .i64 n] 114)).cell? ⟨b.heap.size,3,none⟩=some (.slice none 0 0):=c.out.node.cellAt 3 (by omega)
 have x4:((d.setCell ⟨b.heap.size,1,none⟩ (.int .i64 n)).alloc (.cells #[.int .i64 n] 114)).cell? ⟨b.heap.size,4,none⟩=some (.slice none 0 0):=c.out.node.cellAt 4 (by omega)
 have T:=Xa (c.out.nest.row.alloc (.cells #[.int .i64 3, .int .i64 n, .string ⟨#[]⟩, .slice none 0 0, .slice none 0 0] 75))
 have V:=Xa c.out.frame.size
 go_loopw [0,18] (fun o i wr=>o= .slice L ns.length M/\i= .int .i64 0/\wr=d) (fun _ _ _=>0)
 case atStart=>exact ⟨rfl,rfl,rfl⟩
 case round=>
  obtain ⟨rfl,rfl,G⟩:=hrel
  rw[G]
  clear G
  go_wp2_with (at_builtin;refine wpList_append_own_at _ rfl _ _ 25 rfl base 75 S zeroNode 5 80 Tryz.underlying25 z B C D rfl (by decide) _ _ _ rfl T.out ⟨d.heap.size+1,0,none⟩ 1 1 [.int .i64 3, .int .i64 n, .string ⟨#[]⟩, .slice none 0 0, .slice none 0 0] rfl rfl ?c1 ?c2 ?c3 ?c4 ?c5 ?_)
  case c1=>exact Xed _ _ _ _ _ _ _ (by simp)
  case c2=>intro u J;simp at J;rcases J with rfl|rfl|rfl|rfl|rfl<;>rfl
  case c3=>simp[maxLen];omega
  case c4=>simp;omega
  case c5=>have:=V.out;simp at this|-;omega
  intro v' w6 g f _ t
  have X:=Xa (Mid.fin (x:={kind:=3,n:=n,s:=⟨#[]⟩,keys:= [],kids:= []}) c.out rfl (World.ownsRow_nil _ _ _ _) (fun j _ y hy=>by simp[Value.ownBlock] at hy) (by simpa using g) f (by simpa using t))
  clear g f t
  go_wp2_with fail
  go_ret
  exact ⟨_,_,_,rfl,X.out⟩
set_option maxRecDepth 100000 in
theorem Xkq (s:ByteArray) (base:Nat) (v:Value) (ns:List VN) (KV IV:Nat->Value) (w:World) (h:Nest base w v ns KV IV) (hb:base<=w.heap.size) (hn:ns.length<=100000):
  Calls Tryz.prog 31 #[v, .iface 116 (.agg #[.string s])] w fun e w'=>∃v' KV' IV',e= .returned v'/\Laid base w w' v v' ns [{kind:=4,n:=0,s:=s,keys:= [],kids:= []}] KV IV KV' IV':=by
 have H:=Xa h
 obtain ⟨L,M,rfl⟩:=Xg h.row
 clear h
 have P:=Xbn
 have R:=Ww
 have S:=Un
 obtain ⟨T,z,B,C,D⟩:=info_parts Kl
 go_enter Tryz.func31,Tryz.ntmps31
 go_wp2_with fail
 refine (K5 _ _).mono ?_
 rintro e b ⟨rfl,q⟩
 have F:=Xa q
 go_wp2_with fail
 refine (Xdh _ _).mono ?_
 rintro e d ⟨rfl,l⟩
 have p:=Xa (Mid.start H.out hb F.out l)
 have Z:b.heap.size<d.heap.size:=by have:=l.size;simp at this;omega
 clear q l
 go_wp2_with fail
 have y0:d.cell? ⟨b.heap.size,0,none⟩=some (.int .i64 4):=p.out.node.cellAt 0 (by omega)
 have y1:d.cell? ⟨b.heap.size,1,none⟩=some (.int .i64 0):=p.out.node.cellAt 1 (by omega)
 have y2:d.cell? ⟨b.heap.size,2,none⟩=some (.string ⟨#[]⟩):=p.out.node.cellAt 2 (by omega)
 have y3:d.cell? ⟨b.heap.size,3,none⟩=some (.slice none 0 0):=p.out.node.cellAt 3 (by omega)
 have y4:d.cell? ⟨b.heap.size,4,none⟩=some (.slice none 0 0):=p.out.node.cellAt 4 (by omega)
 have f2:d.frozen? ⟨b.heap.size,2,none⟩=false:=p.out.node.frozenAt 2
 have c:=Xa ((p.out.put 2 (.string s)).grow (World.grownBy_alloc _ (.cells #[.string s] 116) none))
 have x0:((d.setCell ⟨b.heap.size,2,none⟩ (.string s)).alloc (.cells #[.string s] 116)).cell? ⟨b.heap.size,0,none⟩=some (.int .i64 4):=c.out.node.cellAt 0 (by omega)
 have x1:((d.setCell ⟨b.heap.size,2,none⟩ (.string s)).alloc (.cells #[.string s] 116)).cell? ⟨b.heap.size,1,none⟩=some (.int .i64 0):=c.out.node.cellAt 1 (by omega)
 have x2:((d.setCell ⟨b.heap.size,2,none⟩ (.string s)).alloc (.cells #[.string s] 116)).cell? ⟨b.heap.size,2,none⟩=some (.string s):=c.out.node.cellAt 2 (by omega)
 have x3:((d.setCell ⟨b.heap.size,2,none⟩ (.string s)).alloc (.cells #[.string s] 116)).cell? ⟨b.heap.size,3,none⟩=some (.slice none 0 0):=c.out.node.cellAt 3 (by omega)
 have x4:((d.setCell ⟨b.heap.size,2,none⟩ (.string s)).alloc (.cells #[.string s] 116)).cell? ⟨b.heap.size,4,none⟩=some (.slice none 0 0):=c.out.node.cellAt 4 (by omega)
 have V:=Xa (c.out.nest.row.alloc (.cells #[.int .i64 4, .int .i64 0, .string s, .slice none 0 0, .slice none 0 0] 75))
 have X:=Xa c.out.frame.size
 go_loopw [0,18] (fun o i wr=>o= .slice L ns.length M/\i= .int .i64 0/\wr=d) (fun _ _ _=>0)
 case atStart=>exact ⟨rfl,rfl,rfl⟩
 case round=>
  obtain ⟨rfl,rfl,G⟩:=hrel
  rw[G]
  clear G
  go_wp2_with (at_builtin;refine wpList_append_own_at _ rfl _ _ 25 rfl base 75 T zeroNode 5 80 Tryz.underlying25 z B C D rfl (by decide) _ _ _ rfl V.out ⟨d.heap.size+1,0,none⟩ 1 1 [.int .i64 4, .int .i64 0, .string s, .slice none 0 0, .slice none 0 0] rfl rfl ?c1 ?c2 ?c3 ?c4 ?c5 ?_)
  case c1=>exact Xed _ _ _ _ _ _ _ (by simp)
  case c2=>intro u J;simp at J;rcases J with rfl|rfl|rfl|rfl|rfl<;>rfl
  case c3=>simp[maxLen];omega
  case c4=>simp;omega
  case c5=>have:=X.out;simp at this|-;omega
  intro v' w6 g f _ t
  have Y:=Xa (Mid.fin (x:={kind:=4,n:=0,s:=s,keys:= [],kids:= []}) c.out rfl (World.ownsRow_nil _ _ _ _) (fun j _ y hy=>by simp[Value.ownBlock] at hy) (by simpa using g) f (by simpa using t))
  clear g f t
  go_wp2_with fail
  go_ret
  exact ⟨_,_,_,rfl,Y.out⟩


theorem Mid.keepB {base:Nat} {w wr:World} {nb:Nat} {v0 v kv:Value} {ns acc:List VN} {ks:List Int} {cs:List Value} {KV0 IV0 KV IV:Nat->Value} {B:Nat} (h:Mid base w wr nb v0 v kv ns acc ks cs KV0 IV0 KV IV) (hB:B<=base):∀k,k<B->wr.heap[k]? =w.heap[k]? :=
 fun k hk=>h.frame.block k (by have:=h.hbase;omega) (fun e=>by have:=h.v0b k e.symm;omega)
def Xj2 (B base f:Nat):Prop:=
 ∀(t:VT) (x v:Value) (ns:List VN) (KV IV:Nat->Value) (w:World),Nest base w v ns KV IV->TreeAt B w f t x->base<=w.heap.size->ns.length+(Yc f t ns.length).length<=100000->
  Calls Tryz.prog 31 #[v,x] w fun e w'=>∃v' KV' IV',e= .returned v'/\Laid base w w' v v' ns (Yc f t ns.length) KV IV KV' IV'
theorem Xip {base:Nat} {w w3 w5:World} {nb:Nat} {v0 v kv:Value} {ns acc:List VN} {ks:List Int} {cs:List Value} {KV0 IV0 KV IV:Nat->Value} {o:Obj} (h:Mid base w w3 nb v0 v kv ns acc ks cs KV0 IV0 KV IV) (hg:(w3.alloc o).grownBy w5 kv.ownBlock):
  w5.ownsRow w.heap.size 75 5 (.slice (some ⟨nb,0,none⟩) 1 1) 1 cs:=
 h.node.kept ((World.grownBy_alloc w3 o _).trans hg) (Yk h.node h.kids (by decide))
set_option maxRecDepth 100000 in
theorem Xj3 (B base f:Nat) (hB:B<=base) (ih:Xj2 B base f) (kids:List VT) (it v:Value) (ns:List VN) (KV IV:Nat->Value) (w:World) (hit:Jb B w it kids.length (fun j u=>TreeAt B w f (Yg kids j) u)) (h:Nest base w v ns KV IV) (hb:base<=w.heap.size) (hn:ns.length+(Xx f ns.length kids kids.length).length+1<=100000):
  Calls Tryz.prog 31 #[v, .iface 158 (.agg #[it])] w fun e w'=>∃v' KV' IV',e= .returned v'/\Laid base w w' v v' ns (Xx f ns.length kids kids.length++ [{kind:=5,n:=0,s:=ByteArray.empty,keys:= [],kids:=ksT f ns.length kids kids.length}]) KV IV KV' IV':=by
 have H:=Xa h
 obtain ⟨av,cv,rfl⟩:=Xg h.row
 clear h
 obtain ⟨bt,ai,ci,rfl,hx⟩:=hit
 have HX:=Xa hx
 have IH:=Xa ih
 clear hx ih
 have bu:=Xbo
 have bv:=Vm
 have bw:=Xbp
 have bx:=Xgp
 obtain ⟨i0,bd,be,bf,bg⟩:=info_parts Kl
 obtain ⟨i2,bh,bi,bj,bk⟩:=info_parts Wi
 go_enter Tryz.func31,Tryz.ntmps31
 go_wp2_with fail
 refine (V4 _ _ _ _).mono ?_
 rintro e C ⟨rfl,P⟩
 have bl:=Xa P
 go_wp2_with fail
 refine (Kc _ _ _ _).mono ?_
 rintro e w2 ⟨rfl,J⟩
 have l:=Xa (Mid.start H.out hb bl.out J)
 have z2:C.heap.size<w2.heap.size:=by have:=J.size;simp at this;omega
 clear P J
 go_wp2_with fail
 go_loopw [0,18] (fun o i wr=>∃(k:Nat) (G:Value) (KV' IV':Nat->Value),k<=kids.length/\i= .int .i64 k/\Mid base w wr C.heap.size (.slice av ns.length cv) o G ns (Xx f ns.length kids k) (ksT f ns.length kids k) [.int .i64 5, .int .i64 0, .string ⟨#[]⟩, .slice none 0 0,G] KV IV KV' IV') (fun _ i _=>kids.length-(intOf i).toNat)
 case atStart=>exact ⟨0,_,_,_,Nat.zero_le _,rfl,by rw[Qo,Q3];exact l.out⟩
 case round=>
  obtain ⟨k,G,KV',IV',hk,rfl,hm⟩:=hrel
  clear l z2
  have l:=Xa hm
  obtain ⟨ao,co,ho⟩:=Xg hm.nest.row
  obtain ⟨M,hM⟩:∃M,(ns++Xx f ns.length kids k).length=M:=⟨_,rfl⟩
  have R:=Xa hM
  have S:=Xbc f ns.length kids k
  rw[hM] at ho
  subst ho
  have bz:=hm.frame.size
  have b0:M+1<=100000:=by rw[<-hM,List.length_append];omega
  clear hm hM
  by_cases hlt:k<kids.length
  ·obtain ⟨b,rfl,bm,hc⟩:=HX.out (by omega)
   obtain ⟨t,x,T,V⟩:=hc k hlt
   have bs:wr.cell? ⟨b,k,none⟩=some (.iface t x):=(World.cell?_of_block (l.out.keepB hB b bm)).trans T
   have HT:=Xa (TreeAt.keep (l.out.keepB hB) (Nat.le_refl _) V)
   have p:=Xbc f ns.length kids (k+1)
   have HA:=Xa (Zg f ns.length hlt)
   have X:Hid ((ns++Xx f ns.length kids k).length=ns.length+(Xx f ns.length kids k).length):=List.length_append
   clear hc T V
   go_wp2_with fail
   refine (IH.out (Yg kids k) (.iface t x) _ (ns++Xx f ns.length kids k) KV' IV' wr l.out.nest HT.out (by omega) (by rw[X.out];rw[HA.out,List.length_append] at p;omega)).mono ?_
   rintro e w3 ⟨v3,bn,bo,rfl,hl⟩
   have D:=l.out.laid hl
   rw[X.out,<-HA.out] at D
   have q:=Xa D
   obtain ⟨a3,c3,h3⟩:=Xg D.nest.row
   obtain ⟨L,Y⟩:∃L,(ns++Xx f ns.length kids (k+1)).length=L:=⟨_,rfl⟩
   rw[Y] at h3
   subst h3
   have b1:L<=100000:=by rw[<-Y,List.length_append];omega
   have bp:Hid (ksT f ns.length kids (k+1)=ksT f ns.length kids k++ [(L:Int)-1]):=by rw[Hid,Qs f ns.length hlt,<-Y,List.length_append]
   have Z:=Xcz f ns.length kids hk
   have F:=Xa Z
   have y4:w3.cell? ⟨C.heap.size,4,none⟩=some G:=q.out.node.cellAt 4 (by omega)
   have b2:1<=L:=by
    have:=Xm2 HT.out (ns.length+(Xx f ns.length kids k).length)
    rw[<-Y,HA.out,List.length_append,List.length_append]
    omega
   have ba:=Xa q.out.kids
   obtain ⟨ak,ck,bb⟩:=Xg ba.out
   rw[F.out] at bb
   subst bb
   have bq:=Xa q.out.frame.size
   clear D hl Y Z S p
   go_wp2_with (at_builtin;refine wpList_append_own_at _ rfl _ _ 73 rfl w.heap.size 2 i2 (.int .i64 0) 1 8 Tryz.underlying73 bh bi bj bk rfl (by decide) _ _ _ rfl (ba.out.alloc _) ⟨w3.heap.size,0,none⟩ 1 1 [.int .i64 ((L:Int)-1)] rfl rfl ?c1 ?c2 ?c3 ?c4 ?c5 ?_)
   case c1=>exact cell_one_new _ _ _
   case c2=>intro u hu;simp at hu;subst hu;rfl
   case c3=>rw[F.out];simp[maxLen];omega
   case c4=>rw[F.out];omega
   case c5=>have:=bq.out;simp;omega
   intro b3 w5 g d _ z
   obtain ⟨b4,b5,bc⟩:=Xg g
   rw[F.out] at bc
   subst bc
   have n5:=Xip q.out d
   have x4:w5.cell? ⟨C.heap.size,4,none⟩=some (.slice ak k ck):=n5.cellAt 4 (by omega)
   have f4:w5.frozen? ⟨C.heap.size,4,none⟩=false:=n5.frozenAt 4
   have br:=Xa (q.out.kid g d (by simpa using z))
   clear g d z n5
   go_wp2_with fail
   go_roundw
   case rel=>exact ⟨k+1,_,bn,bo,by omega,by go_num,by rw[bp.out];exact br.out⟩
   case measure=>simp[intOf];omega
  ·obtain rfl:k=kids.length:=by omega
   have y0:wr.cell? ⟨C.heap.size,0,none⟩=some (.int .i64 5):=l.out.node.cellAt 0 (by omega)
   have y1:wr.cell? ⟨C.heap.size,1,none⟩=some (.int .i64 0):=l.out.node.cellAt 1 (by omega)
   have y2:wr.cell? ⟨C.heap.size,2,none⟩=some (.string ⟨#[]⟩):=l.out.node.cellAt 2 (by omega)
   have y3:wr.cell? ⟨C.heap.size,3,none⟩=some (.slice none 0 0):=l.out.node.cellAt 3 (by omega)
   have y4:wr.cell? ⟨C.heap.size,4,none⟩=some G:=l.out.node.cellAt 4 (by omega)
   have HN:=Xa (l.out.nest.row.alloc (.cells #[.int .i64 5, .int .i64 0, .string ⟨#[]⟩, .slice none 0 0,G] 75))
   rw[R.out] at HN
   have h1:G.oneCell'=true:=by obtain ⟨a,c,rfl⟩:=Xg l.out.kids;rfl
   go_wp2_with (at_builtin;refine wpList_append_own_at _ rfl _ _ 25 rfl base 75 i0 zeroNode 5 80 Tryz.underlying25 bd be bf bg rfl (by decide) _ _ _ rfl HN.out ⟨wr.heap.size,0,none⟩ 1 1 [.int .i64 5, .int .i64 0, .string ⟨#[]⟩, .slice none 0 0,G] rfl rfl ?c1 ?c2 ?c3 ?c4 ?c5 ?_)
   case c1=>exact Xvl _ _ _ _ _ _
   case c2=>intro u hu;simp at hu;rcases hu with rfl|rfl|rfl|rfl|rfl<;>first|rfl|exact h1
   case c3=>unfold maxLen;omega
   case c4=>omega
   case c5=>simp;omega
   intro v' w6 g d _ z
   have HL:=Xa (Mid.fin (x:={kind:=5,n:=0,s:=⟨#[]⟩,keys:= [],kids:=ksT f ns.length kids kids.length}) l.out rfl (World.ownsRow_nil _ _ _ _) (fun j _ y hy=>by simp[Value.ownBlock] at hy) (by rw[R.out];exact g) d z)
   clear g d z
   go_wp2_with fail
   go_ret
   exact ⟨_,_,_,rfl,HL.out⟩


theorem Xug {K:Nat->List Int}:∀(l:List Int) (b h:Nat) (q:Nat×Nat),l.foldl (Xy (tr K)) (some (b,h))=some q->h<=q.2/\q.1<=b/\∀m,q.1<=m->m<b->∃k p,tr K k=some p/\p.1<=m/\m<=k/\q.1<=p.1/\p.2<=q.2/\k<b:=by
 intro l
 induction l with
 |nil=>intro b h q e;simp at e;subst e;exact ⟨Nat.le_refl _,Nat.le_refl _,fun m d g=>absurd d (by simp only;omega)⟩
 | cons k l ih =>
  intro b h q e
  obtain ⟨p,d,g,f,j⟩:=Qe e
  have G:=Kq f
  obtain ⟨J,o,s⟩:=ih _ _ _ j
  refine ⟨by omega,by omega,fun m hm1 hm2=> ?_⟩
  by_cases c:m<p.1
  ·obtain ⟨t,y,z,B,C,D,F,L⟩:=s m hm1 c
   exact ⟨t,y,z,B,C,D,F,by omega⟩
  ·exact ⟨b-1,p,f,by omega,by omega,o,by omega,by omega⟩
theorem Xj4 {K:Nat->List Int} {n:Nat} {p:Nat×Nat} (h:tr K n=some p):∃q,(K n).reverse.foldl (Xy (tr K)) (some (n,0))=some q/\p=(q.1,q.2+1):=by
 rw[Gz] at h
 cases e:(K n).reverse.foldl (Xy (tr K)) (some (n,0)) with
 |none=>simp[e] at h
 |some q=>simp[e] at h;exact ⟨q,rfl,h.symm⟩
theorem Xoi {K:Nat->List Int}:∀(N n:Nat) (p:Nat×Nat),n<N->tr K n=some p->∀m,p.1<=m->m<=n->∃r,tr K m=some r/\p.1<=r.1/\r.2<=p.2:=by
 intro N
 induction N with
 |zero=>intro n p h;omega
 | succ N ih =>
  intro n p s h m b t
  by_cases e:m=n
  ·subst e;exact ⟨p,h,Nat.le_refl _,Nat.le_refl _⟩
  ·obtain ⟨q,c,rfl⟩:=Xj4 h
   obtain ⟨_,_,d⟩:=Xug _ _ _ _ c
   obtain ⟨k,r,f,g,j,y,z,B⟩:=d m b (by omega)
   obtain ⟨l,o,C,D⟩:=ih k r (by omega) f m g j
   exact ⟨l,o,by simp only at *;omega,by simp only at *;omega⟩
theorem Xuh {T T':Nat->Option (Nat×Nat)} {a N:Nat} (hT:∀m p,T m=some p->p.1<=m) (he:∀m p,a<=m->m<N->T m=some p->a<=p.1->T' (m-a)=some (p.1-a,p.2)):∀(l:List Int) (b h:Nat) (q:Nat×Nat),b<=N->l.foldl (Xy T) (some (b,h))=some q->a<=q.1->(l.map (· + -(a:Int))).foldl (Xy T') (some (b-a,h))=some (q.1-a,q.2):=by
 intro l
 induction l with
 |nil=>intro b h q _ e _;simp at e;subst e;rfl
 | cons k l ih =>
  intro b h q o e f
  obtain ⟨p,s,t,c,d⟩:=Qe e
  have y:=hT _ _ c
  have z:=Xj5 hT _ _ _ _ d
  have g:=he (b-1) p (by omega) (by omega) c (by omega)
  rw[List.map_cons,List.foldl_cons]
  have j:Xy T' (some (b-a,h)) (k+ -(a:Int))=some (p.1-a,max h p.2):=by
   simp only[Xy]
   rw[if_pos ⟨by omega,by omega⟩,show b-a-1=b-1-a by omega,g]
   rfl
  rw[j]
  exact ih _ _ _ (by omega) d f
theorem Xdz {vs:List VN} {d:Int} {a n i:Nat} (h:i<n):Xb (run vs d a n) i=X5 d (Xb vs (a+i)):=by
 unfold run
 unfold Xb
 simp[h]
theorem Xrk (d:Int) (x:VN):Xz (X5 d x)=Xz x:=by
 unfold Xz Yr Zi X5
 simp
theorem Xoj {vs:List VN} {q a h:Nat} (ht:tr (Yd vs) q=some (a,h)):∀(N i:Nat),i<N->a+i<=q->∀p,tr (Yd vs) (a+i)=some p->tr (Yd (run vs (-(a:Int)) a (q+1-a))) i=some (p.1-a,p.2):=by
 intro N
 induction N with
 |zero=>intro i h;omega
 | succ N ih =>
  intro i o g p d
  have b:=Kq ht
  simp only at b
  obtain ⟨r,c,f,_⟩:=Xoi _ _ _ (Nat.lt_succ_self _) ht (a+i) (by simp only;omega) g
  rw[d] at c
  simp only[Option.some.injEq] at c
  subst c
  obtain ⟨w,j,rfl⟩:=Xj4 d
  have l:Yd (run vs (-(a:Int)) a (q+1-a)) i=(Yd vs (a+i)).map (· + -(a:Int)):=by
   unfold Yd
   rw[Xdz (by omega)]
   rfl
  rw[Gz,l,<-List.map_reverse]
  have:=Xuh (T:=tr (Yd vs)) (T':=tr (Yd (run vs (-(a:Int)) a (q+1-a)))) (a:=a) (N:=a+i) (fun m p h=>Kq h)
   (fun m p f h2 h3 h4 => by
    have:=ih (m-a) (by omega) (by omega) p (by rw[show a+(m-a)=m by omega];exact h3)
    exact this) _ _ _ _ (Nat.le_refl _) j f
  rw[show a+i-a=i by omega] at this
  rw[this]
  rfl
theorem Xd0 {vs:List VN} (hok:okB vs=true) {m:Nat} (hm:m<vs.length):okB (Ys vs m)=true:=by
 obtain ⟨P,y,t,R⟩:=Xm hok
 obtain ⟨⟨d,z⟩,c⟩:=t m hm
 have e:Ys vs m=run vs (-(d:Int)) d (m+1-d):=by rw[Ys,c];simp[trF]
 have B:=Kq c
 simp only at B
 have g:∃h,tr (Yd vs) (vs.length-1)=some (0,h)/\h<=8:=by
  unfold okB Jr at hok
  simp only[Bool.and_eq_true] at hok
  have h:=hok.2
  cases e:tr (Yd vs) (vs.length-1) with
  |none=>simp[e] at h
  |some p=>obtain ⟨a,b⟩:=p;simp[e] at h;obtain ⟨rfl,C⟩:=h;exact ⟨b,rfl,C⟩
 obtain ⟨S,o,D⟩:=g
 obtain ⟨r,j,_,q⟩:=Xoi _ _ _ (Nat.lt_succ_self _) o m (Nat.zero_le _) (by omega)
 rw[c] at j
 simp only[Option.some.injEq] at j
 subst j
 simp only at q
 have f:(Ys vs m).length=m+1-d:=by rw[e,K9]
 rw[<-Xiq]
 unfold Xfc
 rw[f]
 have F:G0 (Ys vs m)=true:=by unfold G0;rw[f];simp;omega
 have G:((List.range (m+1-d)).all fun i=>Xz (Xb (Ys vs m) i))=true:=by
  rw[List.all_eq_true]
  intro i s
  have l:=List.mem_range.1 s
  rw[e,Xdz l,Xrk]
  exact (y (d+i) (by omega)).1
 have J:((List.range (m+1-d)).all fun i=>(tr (Yd (Ys vs m)) i).isSome)=true:=by
  rw[List.all_eq_true]
  intro i s
  have l:=List.mem_range.1 s
  obtain ⟨p,L⟩:=t (d+i) (by omega)
  rw[e,Xoj c (i+1) i (by omega) (by omega) p L]
  rfl
 have M:Jr (Ys vs m)=true:=by
  unfold Jr
  rw[f,e,Xoj c (m+1) (m+1-d-1) (by omega) (by omega) (d,z) (by rw[show d+(m+1-d-1)=m by omega];exact c)]
  simp
  omega
 rw[F,G,J,M]
 rfl


theorem X2c (x:List UInt8):∀y:List UInt8,Op.bytesLess x y=true↔x<y:=by
 induction x with
 |nil=>intro y;cases y<;>simp[Op.bytesLess]
 | cons a x ih =>
  intro y
  cases y with
  |nil=>simp[Op.bytesLess]
  | cons b y =>
   have h:=ih y
   rw[List.cons_lt_cons_iff,<-h]
   by_cases h1:a<b<;>by_cases h2:a=b<;>simp[Op.bytesLess,h1,h2]
theorem Xb8 (a b:ByteArray):Y4 a b=true↔a.toList<b.toList:=X2c _ _
theorem Xba {a b c:ByteArray} (h1:Y4 a b=true) (h2:Y4 b c=true):Y4 a c=true:=by
 rw[Xb8] at *;exact List.lt_trans h1 h2
theorem Xjj {a b:ByteArray} (h1:Y4 a b=false) (h2:a.toList≠b.toList):Y4 b a=true:=by
 have c:¬a.toList<b.toList:=fun h=>by rw[<-Xb8] at h;rw[h1] at h;cases h
 rw[Xb8]
 by_cases h:b.toList<a.toList
 ·exact h
 ·exact absurd (List.le_antisymm (List.not_lt.1 h) (List.not_lt.1 c)) h2
def Xh2 (l:List ByteArray):Prop:=∀i j,i<j->j<l.length->Y4 (Xf l i) (Xf l j)=true
theorem Ja {l:List ByteArray} (h:Qv l=true):Xh2 l:=by
 unfold Qv at h
 rw[List.all_eq_true] at h
 have d:∀j,j<l.length->0<j->Y4 (Xf l (j-1)) (Xf l j)=true:=by
  intro j b g
  have:=h j (List.mem_range.2 b)
  unfold Qh at this
  simp only[Bool.and_eq_true,Bool.or_eq_true,decide_eq_true_eq] at this
  rcases this.2 with e|e
  ·omega
  ·exact e
 intro i j f b
 induction j with
 |zero=>omega
 | succ j ih =>
  have c:=d (j+1) b (by omega)
  rw[Nat.add_sub_cancel] at c
  by_cases e:i=j
  ·subst e;exact c
  ·exact Xba (ih (by omega) (by omega)) c
def Z3 (l:List ByteArray) (key:ByteArray):Nat:=(l.takeWhile fun k=>Y4 k key).length
def Y0 (l:List ByteArray) (key:ByteArray):Bool:=decide (Z3 l key<l.length)&&decide ((Xf l (Z3 l key)).toList=key.toList)
theorem X2d {p:ByteArray->Bool}:∀{l:List ByteArray} {i:Nat},i<=l.length->(∀j,j<i->p (Xf l j)=true)->(i<l.length->p (Xf l i)=false)->(l.takeWhile p).length=i:=by
 intro l
 induction l with
 |nil=>intro i b _ _;simp at b;subst b;rfl
 | cons a l ih =>
  intro i b c d
  cases i with
  | zero =>
   have:=d (by simp)
   simp[Xf] at this
   simp[List.takeWhile_cons,this]
  | succ i =>
   have f:=c 0 (by omega)
   simp[Xf] at f
   rw[List.takeWhile_cons,if_pos f,List.length_cons]
   rw[ih (i:=i) (by simp at b;omega) (fun j hj=>by have:=c (j+1) (by omega);simpa [Xf] using this) (fun hl=>by have:=d (by simp;omega);simpa [Xf] using this)]
theorem Xgl {l:List ByteArray} {key:ByteArray} {i:Nat} (hi:i<=l.length) (h1:∀j,j<i->Y4 (Xf l j) key=true) (h2:i<l.length->Y4 (Xf l i) key=false):Z3 l key=i:=X2d hi h1 h2
theorem Xlx {l:List ByteArray} (key:ByteArray):Z3 l key<=l.length/\(∀j,j<Z3 l key->Y4 (Xf l j) key=true)/\(Z3 l key<l.length->Y4 (Xf l (Z3 l key)) key=false):=by
 unfold Z3
 induction l with
 |nil=>exact ⟨by simp,fun j hj=>absurd hj (by simp),fun h=>absurd h (by simp)⟩
 | cons a l ih =>
  cases h:Y4 a key
  ·rw[List.takeWhile_cons,h]
   refine ⟨by simp,fun j hj=>absurd hj (by simp),fun _=> ?_⟩
   simpa [Xf] using h
  ·rw[List.takeWhile_cons,h]
   simp only[if_true,List.length_cons]
   refine ⟨by omega,fun j hj=> ?_,fun hl=> ?_⟩
   ·cases j with
    |zero=>simpa [Xf] using h
    |succ j=>have:=ih.2.1 j (by omega);simpa [Xf] using this
   ·have:=ih.2.2 (by omega);simpa [Xf] using this
theorem Xta {a b:ByteArray} (h:Y4 a b=true):a.toList≠b.toList:=fun e=>by
 rw[Xb8,e] at h;exact absurd h (List.lt_irrefl _)
def Gx (kind:Int) (keys:List ByteArray) (n:Nat) (x:PS):Option Nat:=
 if x.named=true then (if kind=6/\Y0 keys x.key=true then some (Z3 keys x.key) else none)
 else if kind=5/\x.pl<(n:Int) then some x.pl.toNat else none
def Q1 (x:VN) (s:PS):Option Nat:=Gx x.kind x.keys x.kids.length s
theorem Xjk {l:List ByteArray} (h:Xh2 l) {key:ByteArray} {i:Nat} (hi:i<l.length) (he:(Xf l i).toList=key.toList) (hf:∀j,j<i->(Xf l j).toList≠key.toList):Y0 l key=true/\Z3 l key=i:=by
 have b:Z3 l key=i:=Xgl (by omega) (fun j hj=>by
   have:=h j i hj hi
   rw[Xb8] at this|-
   rw[<-he];exact this) (fun _=>by
   cases h3:Y4 (Xf l i) key
   ·rfl
   ·exact absurd he (Xta h3))
 refine ⟨?_,b⟩
 unfold Y0
 rw[b]
 simp[hi,he]
theorem Xly {l:List ByteArray} {key:ByteArray} (hf:∀j,j<l.length->(Xf l j).toList≠key.toList):Y0 l key=false:=by
 unfold Y0
 by_cases h:Z3 l key<l.length
 ·simp[h,hf _ h]
 ·simp[h]


theorem Xa7 {vs:List VN} (hok:okB vs=true):∃h,tr (Yd vs) (vs.length-1)=some (0,h):=by
 unfold okB Jr at hok
 simp only[Bool.and_eq_true] at hok
 have h:=hok.2
 cases e:tr (Yd vs) (vs.length-1) with
 |none=>simp[e] at h
 |some p=>obtain ⟨a,b⟩:=p;simp[e] at h;obtain ⟨rfl,_⟩:=h;exact ⟨b,rfl⟩
def Xac (vs:List VN):VT:=Xt vs 80 (vs.length-1)
theorem Xke (vs:List VN) (d:Int):run vs d 0 vs.length=vs.map (X5 d):=by
 unfold run
 apply List.ext_getElem?
 intro j
 by_cases hj:j<vs.length
 ·simp[List.getElem?_range',hj,Xb]
 ·simp[hj]
theorem Xpg {vs:List VN} (hok:okB vs=true) (sh:Nat):Yc 80 (Xac vs) sh=vs.map (X5 (sh:Int)):=by
 obtain ⟨c,_,_,_⟩:=Xm hok
 obtain ⟨h,b⟩:=Xa7 hok
 unfold Xac
 rw[<-Wg,Xbb vs 80 (vs.length-1) sh 0 h (by omega) b,<-Xke]
 have e:vs.length-1+1-0=vs.length:=by omega
 rw[e]
 simp
def Vr (L:Nat->List VN) (m:Nat):List VT:=(List.range m).map fun i=>Xac (L i)
theorem Xfr (L:Nat->List VN) (m:Nat):(Vr L m).length=m:=by simp[Vr]
theorem Xph (L:Nat->List VN) {m j:Nat} (h:j<m):Yg (Vr L m) j=Xac (L j):=by simp[Vr,Yg,h]
theorem X3o (L:Nat->List VN) (m:Nat) (hok:∀i,i<m->okB (L i)=true):∀k,k<=m->Xx 80 0 (Vr L m) k=X8 L k/\ksT 80 0 (Vr L m) k=Y7 L k:=by
 intro k
 induction k with
 |zero=>intro _;exact ⟨Qo _ _ _,Q3 _ _ _⟩
 | succ k ih =>
  intro f
  obtain ⟨c,d⟩:=ih (by omega)
  have b:k<(Vr L m).length:=by rw[Xfr];omega
  have e:Xx 80 0 (Vr L m) (k+1)=X8 L (k+1):=by
   rw[Zg 80 0 b,c,Xph L (by omega),Xpg (hok k (by omega)),Nat.zero_add]
   rfl
  refine ⟨e, ?_⟩
  rw[Qs 80 0 b,d,e,Nat.zero_add]
  rfl
theorem Xhs (kind:Int) (keys:List ByteArray) (L:Nat->List VN) (m:Nat) (hok:∀i,i<m->okB (L i)=true):Yc 81 (.mk kind 0 ByteArray.empty keys (Vr L m)) 0=Yj kind keys L m:=by
 rw[Qw,Xfr]
 obtain ⟨b,c⟩:=X3o L m hok m (Nat.le_refl _)
 rw[b,c]
 rfl
theorem Vh {L:Nat->List VN} {m:Nat} (hok:∀i,i<m->okB (L i)=true):∀k,k<=m->(X8 L k).length<=k *80:=by
 intro k
 induction k with
 |zero=>intro _;simp[X8]
 | succ k ih =>
  intro b
  have c:=ih (by omega)
  have d:=(Xm (hok k (by omega))).1
  rw[K7]
  omega
theorem Z0 {a b:List VN} {i:Nat} (h:i<a.length):Xb (a++b) i=Xb a i:=by
 unfold Xb;rw[List.getD_eq_getElem?_getD,List.getD_eq_getElem?_getD,List.getElem?_append_left h]
theorem Zy {a b:List VN} {i:Nat} (h:a.length<=i):Xb (a++b) i=Xb b (i-a.length):=by
 unfold Xb;rw[List.getD_eq_getElem?_getD,List.getD_eq_getElem?_getD,List.getElem?_append_right h]
theorem Xi0 {vs:List VN} {d:Int} {i:Nat} (h:i<vs.length):Xb (vs.map (X5 d)) i=X5 d (Xb vs i):=by
 unfold Xb;simp[h]
def X41 (x:VN):Prop:=Fits x/\x.keys.length<=80/\x.kids.length<=80/\∀j,j<x.kids.length->-10000<=Xj x.kids j/\Xj x.kids j<=10000
theorem X1o {L:Nat->List VN} {m:Nat} (hm:m<=80) (hok:∀i,i<m->okB (L i)=true) (hf:∀i,i<m->∀j,j<(L i).length->Fits (Xb (L i) j)):∀k,k<=m->∀i,i<(X8 L k).length->X41 (Xb (X8 L k) i):=by
 intro k
 induction k with
 |zero=>intro _ i d;simp[X8] at d
 | succ k ih =>
  intro t i d
  have p:=Vh hok k (by omega)
  rw[X8]
  by_cases e:i<(X8 L k).length
  ·rw[Z0 e];exact ih (by omega) i e
  ·rw[Zy (by omega)]
   rw[K7] at d
   rw[Xi0 (by omega)]
   have g:i-(X8 L k).length<(L k).length:=by omega
   generalize i-(X8 L k).length=j at g
   have f:=hf k (by omega) j g
   have l:=Va (hok k (by omega)) j g
   have y:=(Xm (hok k (by omega))).1
   have o:∀q,q<(X5 ((X8 L k).length:Int) (Xb (L k) j)).kids.length->-10000<=Xj (X5 ((X8 L k).length:Int) (Xb (L k) j)).kids q/\Xj (X5 ((X8 L k).length:Int) (Xb (L k) j)).kids q<=10000:=by
    intro q c
    have b:q<(Xb (L k) j).kids.length:=by simpa [X5] using c
    have z:=Zw l.1 b
    have s:Xj (X5 ((X8 L k).length:Int) (Xb (L k) j)).kids q=Xj (Xb (L k) j).kids q+((X8 L k).length:Int):=by
     rw[Y8 c,Y8 b];simp[X5]
    rw[s]
    omega
   exact ⟨⟨f.keysN,f.keysS,by simpa [X5] using f.kidsN,fun q c=>by have:=o q c;omega,f.size,f.klo,f.khi,f.nlo,f.nhi⟩,l.2.2,by simpa [X5] using l.2.1,o⟩
theorem Xlm (L:Nat->List VN):∀(m j:Nat),j<m->Xj (Y7 L m) j=((X8 L (j+1)).length:Int)-1:=by
 intro m
 induction m with
 |zero=>intro j b;omega
 | succ m ih =>
  intro j b
  have c:j<(Y7 L (m+1)).length:=by rw[Qj];exact b
  rw[Y8 c]
  by_cases e:j<m
  ·have:=ih j e
   rw[Y8 (by rw[Qj];exact e)] at this
   simp only[Y7]
   rw[List.getElem_append_left (by rw[Qj];exact e)]
   exact this
  ·obtain rfl:j=m:=by omega
   simp only[Y7]
   rw[List.getElem_append_right (by rw[Qj];exact Nat.le_refl _)]
   simp[Qj]
theorem Xyf {L:Nat->List VN} {m:Nat} (hm:m<=80) (hok:∀i,i<m->okB (L i)=true) (hf:∀i,i<m->∀j,j<(L i).length->Fits (Xb (L i) j)) {kind:Int} (h1:1<=kind) (h6:kind<=6) {keys:List ByteArray} (hk:keys.length<=80) (hks:∀i,i<keys.length->(Xf keys i).size<=140737488355328):
  (Yj kind keys L m).length<=6401/\∀i,i<(Yj kind keys L m).length->X41 (Xb (Yj kind keys L m) i):=by
 have d:=Vh hok m (Nat.le_refl _)
 refine ⟨by unfold Yj;simp;omega,fun i hi=> ?_⟩
 unfold Yj at hi|-
 by_cases e:i<(X8 L m).length
 ·rw[Z0 e];exact X1o hm hok hf m (Nat.le_refl _) i e
 ·have f:i-(X8 L m).length=0:=by simp at hi;omega
  rw[Zy (by omega),f]
  have c:∀j,j<(Y7 L m).length->-10000<=Xj (Y7 L m) j/\Xj (Y7 L m) j<=10000:=by
   intro j b
   rw[Qj] at b
   rw[Xlm L m j b]
   have:=Vh hok (j+1) (by omega)
   omega
  exact ⟨⟨by show keys.length<=_;omega,hks,by show (Y7 L m).length<=_;rw[Qj];omega,fun j b=>by have:=c j b;show-9223372036854775808<=Xj (Y7 L m) j/\Xj (Y7 L m) j<=9223372036854775807;omega,by show ByteArray.empty.size<=_;decide,by show-9223372036854775808<=kind;omega,by show kind<=_;omega,by show (-9223372036854775808:Int)<=0;decide,by show (0:Int)<=9223372036854775807;decide⟩,hk,by show (Y7 L m).length<=80;rw[Qj];exact hm,c⟩


def Xqn (L:Nat->List VN) (m:Nat):Bool:=(List.range m).all fun i=>okB (L i)
theorem Ub {L:Nat->List VN} {m:Nat} (h:Xqn L m=true):∀i,i<m->okB (L i)=true:=fun i hi=>by
 unfold Xqn at h;rw[List.all_eq_true] at h;exact h i (List.mem_range.2 hi)
theorem X31 {L:Nat->List VN} {m:Nat} (h:∀i,i<m->okB (L i)=true):Xqn L m=true:=by
 unfold Xqn;rw[List.all_eq_true];exact fun i hi=>h i (List.mem_range.1 hi)
theorem Xc9 {L:Nat->List VN} {m:Nat} (hok:∀i,i<m->okB (L i)=true):∀i,i<m->0<(L i).length/\∀j,j<(L i).length->X1d (Xb (L i) j):=by
 intro i b
 obtain ⟨d,_,_,_⟩:=Xm (hok i b)
 refine ⟨by omega,fun j hj=> ?_⟩
 have c:=Va (hok i b) j hj
 exact ⟨by omega,by omega,fun q hq=>by have:=Zw c.1 hq;omega⟩


theorem Ka:(Tryz.prog.info? 25).map (fun i=>(i.zero,i.size,i.bytes))=some (some (.slice none 0 0),1,24):=by kernel_rfl
def Xe (vs:List VN):List Int:=(Xb vs (vs.length-1)).kids
def PL (vs:List VN) (i:Nat):List VN:=Ys vs (Xj (Xe vs) i).toNat
def Zl (vs:List VN):Nat:=if okB vs=true then (Xe vs).length else 0
theorem Zh {vs:List VN} (hok:okB vs=true) {k:Nat} (hk:k<(Xe vs).length):∃q:Nat,Xj (Xe vs) k=(q:Int)/\q+1<vs.length:=by
 obtain ⟨c,b,_,_⟩:=Xm hok
 have:=Zw (b (vs.length-1) (by omega)).2 hk
 refine ⟨(Xj (Xe vs) k).toNat, ?_, ?_⟩
 ·unfold Xe;omega
 ·unfold Xe;omega
theorem Kv {vs:List VN} (hf:∀i,i<vs.length->Fits (Xb vs i)):Zl vs<=80/\∀i,i<Zl vs->Few (PL vs i)/\∀j,j<(PL vs i).length->Fits (Xb (PL vs i) j):=by
 unfold Zl
 by_cases hok:okB vs=true
 ·rw[if_pos hok]
  obtain ⟨g,_,_,c⟩:=Xm hok
  refine ⟨by have:=c (vs.length-1) (by omega);unfold Xe;omega,fun i hi=> ?_⟩
  obtain ⟨q,d,f⟩:=Zh hok hi
  have e:PL vs i=Ys vs q:=by unfold PL;rw[d];simp
  rw[e]
  have b:=Xvu hok hf (m:=q) (by omega)
  exact ⟨⟨(G7 hok (Nat.lt_succ_self q) (by omega)).2,fun j hj=>(b j hj).2⟩,fun j hj=>(b j hj).1⟩
 ·rw[if_neg hok]
  exact ⟨by omega,fun i hi=>absurd hi (by omega)⟩
set_option maxRecDepth 100000 in
theorem Kp (B:Nat) (v:Value) (vs:List VN) (w:World) (h:NodesAt B w v vs) (hB:B<=w.heap.size) (hok:okB vs=true):
  Calls Tryz.prog 72 #[v] w fun e w'=>∃r rs KV IV lo,e= .returned r/\Rows2 w.heap.size w' r (Xe vs).length (PL vs) rs KV IV lo/\Below w.heap.size w w':=by
 have HV:=Xa h
 obtain ⟨bj,av,bl,rfl,d⟩:=h
 obtain ⟨p1,_,p3,_⟩:=Xm hok
 obtain ⟨b0,o0,rfl,bm,hc⟩:=d (by omega)
 obtain ⟨ka,ki,g⟩:=hc (vs.length-1) (by omega)
 have bn:=Xa g
 have T:=Xa p3
 have z:=Xa (Va hok)
 have V:=Xa (fun k hk=>Zh (k:=k) hok hk)
 obtain ⟨i0,X,Y,Z,ba⟩:=info_parts Ka
 obtain ⟨_,bo,aI,cI,eI,C⟩:=g.inn.kids
 subst eI
 have t:Below w.heap.size w (w.alloc (.cells #[] 25)):=(Below.refl _ _).alloc (Nat.le_refl _) _
 have c4:=(Xc (o:=o0+(vs.length-1) *5+4) t (show b0<w.heap.size by omega)).trans g.c4
 have bb:=Xa C
 have p0:((vs.length:Int)-1).toNat=vs.length-1:=by omega
 have bc:=Xa (Rows2.start (base:=w.heap.size) (World.ownsRow_lit w #[] 0 (Nat.le_refl _) (by simp[maxLen]) rfl) (by simp) (PL vs))
 have bd:=Xa t
 have D:(Xe vs).length=(Xb vs (vs.length-1)).kids.length:=rfl
 have F:=Xa D
 have G:(Xb vs (vs.length-1)).kids.length<=80:=(z.out (vs.length-1) (by omega)).2.1
 obtain ⟨M,hM⟩:∃M,(Xb vs (vs.length-1)).kids.length=M:=⟨_,rfl⟩
 have R:=Xa hM
 rw[hM] at c4 G
 clear d hc g C p3 t D hM
 go_enter Tryz.func72,Tryz.ntmps72
 go_wp2_with fail
 go_loopw [3,5] (fun o i wr=>∃(k:Nat) (rs:Nat->Value) (KV IV:Nat->Nat->Value) (lo:Nat->Nat),k<=M/\i= .int .i64 k/\Rows2 w.heap.size wr o k (PL vs) rs KV IV lo/\Below w.heap.size w wr) (fun _ i _=>M-(intOf i).toNat)
 case atStart=>exact ⟨0,_,_,_,_,Nat.zero_le _,rfl,bc.out,bd.out⟩
 case round=>
  obtain ⟨k,rs,KV,IV,lo,hk,rfl,b,f⟩:=hrel
  have HR:=Xa b
  have zs:=f.size
  obtain ⟨ao,co,eo⟩:=Xg b.row
  subst eo
  clear b
  by_cases hlt:k<M
  ·obtain ⟨q,hq,bp⟩:=V.out k (by rw[F.out,R.out];exact hlt)
   obtain ⟨bk,ok,rfl,bq,J⟩:=bb.out (by rw[R.out];omega)
   have br:wr.cell? ⟨bk,ok+k,none⟩=some (.int .i64 (q:Int)):=by
    have:=J k (by rw[R.out];exact hlt)
    rw[<-hq]
    exact (Xc f (by omega)).trans this
   obtain ⟨⟨S,h0⟩,y⟩:=T.out q (by omega)
   have be:=Xa y
   have bf:Hid (run vs (-(S:Int)) S (q+1-S)=PL vs k):=by rw[Hid];unfold PL;rw[hq,Int.toNat_natCast,Ys,y];simp[trF]
   clear y hq J
   go_wp2_with fail
   refine (Xie B _ vs q S h0 wr (HV.out.below (f.mono hB)) (by omega) p1.2 z.out (by omega) be.out).mono ?_
   rintro e w3 ⟨r,K,I,rfl,j,l⟩
   rw[bf.out] at j
   have bg:=Xa j
   obtain ⟨ar,cr,er⟩:=Xg j.row
   obtain ⟨Lk,L⟩:∃Lk,(PL vs k).length=Lk:=⟨_,rfl⟩
   rw[L] at er
   subst er
   have P:=Xa l
   have z3:=l.size
   have p:=Xa (HR.out.below l).row
   clear j l L
   go_wp2_with (at_builtin;refine wpList_append_own_at _ rfl _ _ 28 rfl w.heap.size 25 i0 (.slice none 0 0) 1 24 Tryz.underlying28 X Y Z ba rfl (by decide) _ _ _ rfl (p.out.alloc _) ⟨w3.heap.size,0,none⟩ 1 1 [.slice ar Lk cr] rfl rfl ?c1 ?c2 ?c3 ?c4 ?c5 ?_)
   case c1=>exact cell_one_new _ _ _
   case c2=>intro u hu;simp at hu;subst hu;rfl
   case c3=>unfold maxLen;omega
   case c4=>omega
   case c5=>simp;omega
   intro v' w5 s c _ _
   have bh:=Xa (HR.out.snoc P.out bg.out s c)
   have bi:Hid (Below w.heap.size w w5):=((f.trans (P.out.mono zs)).alloc (by omega) _).grown c (by simp;omega) (fun x hx=>(p.out.lt x hx).1)
   clear s c
   go_wp2_with fail
   go_roundw
   case rel=>exact ⟨k+1,_,_,_,_,by omega,by go_num,bh.out,bi.out⟩
   case measure=>simp[intOf];omega
  ·obtain rfl:k=M:=by omega
   go_wp2_with fail
   go_ret
   exact ⟨_,_,_,_,_,rfl,by rw[F.out,R.out];exact HR.out,f⟩


def Ge:Nat->VT->Prop
 |0,_=>False
 |f+1, .mk _ _ _ _ kids=>∀j,j<kids.length->Ge f (Yg kids j)
def Xds (kind n:Int) (s:ByteArray) (keys:List ByteArray) (m:Nat):Bool:=Xz ⟨kind,n,s,keys,List.replicate m 0⟩
def goodT:Nat->VT->Prop
 |0,_=>False
 |f+1, .mk kind n s keys kids=>Xds kind n s keys kids.length=true/\∀j,j<kids.length->goodT f (Yg kids j)
def hiK (F:VT->Nat) (kids:List VT):Nat->Nat
 |0=>0
 |k+1=>max (hiK F kids k) (F (Yg kids k))
def hiT:Nat->VT->Nat
 |0,_=>0
 |f+1, .mk _ _ _ _ kids=>hiK (hiT f) kids kids.length+1
theorem goodT.full:∀{f:Nat} {t:VT},goodT f t->Ge f t
 |0,_,h=>h.elim
 |f+1, .mk _ _ _ _ _,h=>fun j hj=>(h.2 j hj).full
theorem Xnv (x:VN):Xz x=Xds x.kind x.n x.s x.keys x.kids.length:=by
 unfold Xds Xz Yr Zi
 simp
theorem Xnw (f sh:Nat) (kids:List VT) {k m:Nat} (h:k<=m) (hm:m<=kids.length):∃t,Xx f sh kids m=Xx f sh kids k++t:=by
 induction m with
 | zero => obtain rfl : k = 0 := by omega
           exact ⟨[],by simp⟩
 | succ m ih =>
  by_cases e:k=m+1
  ·subst e;exact ⟨[],by simp⟩
  ·obtain ⟨t,b⟩:=ih (by omega) (by omega)
   exact ⟨t++_,by rw[Zg f sh (by omega),b,List.append_assoc]⟩
theorem Xhh {f:Nat} {t:VT} (h:Ge f t) (sh:Nat):1<=(Yc f t sh).length:=by
 cases f with
 |zero=>exact h.elim
 |succ f=>obtain ⟨b,n,s,keys,kids⟩:=t;rw[Qw];simp
theorem X4g:∀{f:Nat} {t:VT},Ge f t->∀(vs:List VN) (sh:Nat),(∀j,j<(Yc f t sh).length->Yd vs (sh+j)=(Xb (Yc f t sh) j).kids)->tr (Yd vs) (sh+(Yc f t sh).length-1)=some (sh,hiT f t):=by
 intro f
 induction f with
 |zero=>intro t h;exact h.elim
 | succ f ih =>
  intro t h vs sh l
  obtain ⟨y,n,s,keys,kids⟩:=t
  rw[Qw] at l|-
  rw[List.length_append,List.length_cons,List.length_nil] at l|-
  have b:=l (Xx f sh kids kids.length).length (by omega)
  rw[Zy (Nat.le_refl _),Nat.sub_self] at b
  have c:Yd vs (sh+(Xx f sh kids kids.length).length)=ksT f sh kids kids.length:=b
  rw[show sh+((Xx f sh kids kids.length).length+(0+1))-1=sh+(Xx f sh kids kids.length).length by omega,Gz,c]
  have C:∀k,k<=kids.length->∀d,(ksT f sh kids k).reverse.foldl (Xy (tr (Yd vs))) (some (sh+(Xx f sh kids k).length,d))=some (sh,max d (hiK (hiT f) kids k)):=by
   intro k
   induction k with
   |zero=>intro _ d;rw[Q3,Qo];simp[hiK]
   | succ k ihk =>
    intro D d
    rw[Qs f sh (by omega),List.reverse_append,List.reverse_cons,List.reverse_nil,List.nil_append,List.cons_append,List.nil_append,List.foldl_cons]
    have z:(Xx f sh kids (k+1)).length=(Xx f sh kids k).length+(Yc f (Yg kids k) (sh+(Xx f sh kids k).length)).length:=by rw[Zg f sh (by omega),List.length_append]
    have B:=Xhh (h k (by omega)) (sh+(Xx f sh kids k).length)
    have o:=ih (h k (by omega)) vs (sh+(Xx f sh kids k).length) (fun j hj=>by
     obtain ⟨F,g⟩:=Xnw f sh kids (show k+1<=kids.length by omega) (Nat.le_refl _)
     have p:=congrArg List.length g
     rw[List.length_append] at p
     have:=l ((Xx f sh kids k).length+j) (by omega)
     rw[Z0 (by omega),g,Z0 (by omega),Zg f sh (by omega),Zy (by omega)] at this
     rw[Nat.add_assoc,this,Nat.add_sub_cancel_left])
    have q:Xy (tr (Yd vs)) (some (sh+(Xx f sh kids (k+1)).length,d)) (((sh+(Xx f sh kids (k+1)).length:Nat):Int)-1)=some (sh+(Xx f sh kids k).length,max d (hiT f (Yg kids k))):=by
     unfold Xy
     simp only
     rw[if_pos ⟨by omega,trivial⟩]
     rw[show sh+(Xx f sh kids (k+1)).length-1=sh+(Xx f sh kids k).length+(Yc f (Yg kids k) (sh+(Xx f sh kids k).length)).length-1 by omega,o]
     rfl
    rw[q,ihk (by omega),hiK]
    congr 2
    omega
  rw[C _ (Nat.le_refl _) 0]
  simp[hiT]
theorem Xk7 (f sh:Nat) (kids:List VT) (P:VN->Prop):∀k,k<=kids.length->((∀j,j<(Xx f sh kids k).length->P (Xb (Xx f sh kids k) j))↔∀i,i<k->∀j,j<(Yc f (Yg kids i) (sh+(Xx f sh kids i).length)).length->P (Xb (Yc f (Yg kids i) (sh+(Xx f sh kids i).length)) j)):=by
 intro k
 induction k with
 |zero=>intro _;rw[Qo];simp
 | succ k ih =>
  intro g
  have b:=ih (by omega)
  rw[Zg f sh (by omega),List.length_append]
  constructor
  ·intro h i d j c
   by_cases e:i=k
   ·subst e
    have:=h ((Xx f sh kids i).length+j) (by omega)
    rw[Zy (by omega),Nat.add_sub_cancel_left] at this
    exact this
   ·exact b.1 (fun j c=>by have:=h j (by omega);rw[Z0 c] at this;exact this) i (by omega) j c
  ·intro h j c
   by_cases e:j<(Xx f sh kids k).length
   ·rw[Z0 e]
    exact b.2 (fun i d=>h i (by omega)) j e
   ·rw[Zy (by omega)]
    exact h k (by omega) _ (by omega)
theorem Xwm:∀{f:Nat} {t:VT},Ge f t->∀sh,((∀j,j<(Yc f t sh).length->Xz (Xb (Yc f t sh) j)=true)↔goodT f t):=by
 intro f
 induction f with
 |zero=>intro t h;exact h.elim
 | succ f ih =>
  intro t h sh
  obtain ⟨b,n,s,keys,kids⟩:=t
  rw[Qw,List.length_append,List.length_cons,List.length_nil]
  have d:Xz (Xb (Xx f sh kids kids.length++ [{b:=b,n:=n,s:=s,keys:=keys,kids:=ksT f sh kids kids.length}]) (Xx f sh kids kids.length).length)=Xds b n s keys kids.length:=by
   rw[Zy (Nat.le_refl _),Nat.sub_self]
   have:=Xnv {b:=b,n:=n,s:=s,keys:=keys,kids:=ksT f sh kids kids.length}
   rw[Xcz f sh kids (Nat.le_refl _)] at this
   exact this
  have g:=Xk7 f sh kids (fun x=>Xz x=true) kids.length (Nat.le_refl _)
  constructor
  ·intro c
   refine ⟨by rw[<-d];exact c _ (by omega),fun i hi=> ?_⟩
   refine (ih (h i hi) (sh+(Xx f sh kids i).length)).1 ?_
   exact g.1 (fun j hj'=>by have:=c j (by omega);rw[Z0 hj'] at this;exact this) i hi
  ·rintro ⟨l,o⟩ j c
   by_cases e:j<(Xx f sh kids kids.length).length
   ·rw[Z0 e]
    exact g.2 (fun i hi=>(ih (h i hi) _).2 (o i hi)) j e
   ·obtain rfl:j=(Xx f sh kids kids.length).length:=by omega
    rw[d];exact l
theorem Xwn {f:Nat} {t:VT} (h:Ge f t):okB (Yc f t 0)=true↔(Yc f t 0).length<=80/\goodT f t/\hiT f t<=8:=by
 have g:=Xhh h 0
 have d:=X4g h (Yc f t 0) 0 (fun j hj=>by rw[Nat.zero_add];rfl)
 rw[Nat.zero_add] at d
 have o:=Xwm h 0
 rw[<-Xiq]
 unfold Xfc
 have l:((List.range (Yc f t 0).length).all fun i=>(tr (Yd (Yc f t 0)) i).isSome)=true:=by
  simp only[List.all_eq_true,List.mem_range]
  intro i s
  obtain ⟨q,p⟩:=Xj8 _ _ d i (by simp) (by omega)
  rw[p];rfl
 rw[l]
 unfold Jr G0
 rw[d]
 simp only[Bool.and_eq_true,decide_eq_true_eq,List.all_eq_true,List.mem_range,true_and]
 rw[o]
 constructor
 ·rintro ⟨⟨⟨_,a⟩,b⟩,c⟩;exact ⟨a,b,c⟩
 ·rintro ⟨a,b,c⟩;exact ⟨⟨⟨g,a⟩,b⟩,c⟩


theorem Xyb (a b:Int) (x:VN):X5 a (X5 b x)=X5 (a+b) x:=by
 unfold X5
 simp only[List.map_map]
 congr 1
 apply List.map_congr_left
 intro y _
 simp only[Function.comp]
 omega
theorem Xu2 (x:VN):X5 0 x=x:=by
 unfold X5
 cases x
 simp
theorem Xu3:∀(f:Nat) (t:VT) (sh:Nat),Yc f t sh=(Yc f t 0).map (X5 (sh:Int)):=by
 intro f
 induction f with
 |zero=>intro t sh;rfl
 | succ f ih =>
  intro t sh
  obtain ⟨d,n,s,keys,kids⟩:=t
  have g:∀k,k<=kids.length->Xx f sh kids k=(Xx f 0 kids k).map (X5 (sh:Int))/\ksT f sh kids k=(ksT f 0 kids k).map (· +(sh:Int)):=by
   intro k
   induction k with
   |zero=>intro _;rw[Qo,Qo,Q3,Q3];exact ⟨rfl,rfl⟩
   | succ k ihk =>
    intro g
    obtain ⟨b,c⟩:=ihk (by omega)
    have l:(Xx f sh kids k).length=(Xx f 0 kids k).length:=by rw[b,List.length_map]
    have j:Xx f sh kids (k+1)=(Xx f 0 kids (k+1)).map (X5 (sh:Int)):=by
     rw[Zg f sh (by omega),Zg f 0 (by omega),List.map_append,b,List.length_map,ih _ (sh+(Xx f 0 kids k).length),ih _ (0+(Xx f 0 kids k).length),List.map_map]
     congr 1
     apply List.map_congr_left
     intro x _
     simp only[Function.comp,Xyb]
     congr 1
     omega
    refine ⟨j, ?_⟩
    rw[Qs f sh (by omega),Qs f 0 (by omega),List.map_append,c,j,List.length_map]
    congr 1
    simp only[List.map_cons,List.map_nil,List.cons.injEq,and_true]
    omega
  obtain ⟨b,c⟩:=g _ (Nat.le_refl _)
  rw[Qw,Qw,List.map_append,b,c]
  rfl
theorem X3l (f:Nat) (kids:List VT):∀k,k<=kids.length->Xx f 0 kids k=X8 (fun i=>Yc f (Yg kids i) 0) k/\ksT f 0 kids k=Y7 (fun i=>Yc f (Yg kids i) 0) k:=by
 intro k
 induction k with
 |zero=>intro _;exact ⟨Qo _ _ _,Q3 _ _ _⟩
 | succ k ih =>
  intro g
  obtain ⟨c,d⟩:=ih (by omega)
  have b:Xx f 0 kids (k+1)=X8 (fun i=>Yc f (Yg kids i) 0) (k+1):=by
   rw[Zg f 0 (by omega),X8,c,Nat.zero_add,Xu3 f _ (X8 _ k).length]
  refine ⟨b, ?_⟩
  rw[Qs f 0 (by omega),Y7,d,b,Nat.zero_add]
theorem Xyc:∀{f g:Nat} {t:VT},Ge f t->f<=g->∀sh,Yc g t sh=Yc f t sh:=by
 intro f
 induction f with
 |zero=>intro g t h;exact h.elim
 | succ f ih =>
  intro g t h o sh
  obtain ⟨g,rfl⟩:∃g',g=g'+1:=⟨g-1,by omega⟩
  obtain ⟨d,n,s,keys,kids⟩:=t
  have j:∀k,k<=kids.length->Xx g sh kids k=Xx f sh kids k/\ksT g sh kids k=ksT f sh kids k:=by
   intro k
   induction k with
   |zero=>intro _;rw[Qo,Qo,Q3,Q3];exact ⟨rfl,rfl⟩
   | succ k ihk =>
    intro j
    obtain ⟨b,c⟩:=ihk (by omega)
    have l:Xx g sh kids (k+1)=Xx f sh kids (k+1):=by rw[Zg g sh (by omega),Zg f sh (by omega),b,ih (h k (by omega)) (by omega)]
    exact ⟨l,by rw[Qs g sh (by omega),Qs f sh (by omega),c,l]⟩
  obtain ⟨b,c⟩:=j _ (Nat.le_refl _)
  rw[Qw,Qw,b,c]
theorem X40 {F:VT->Nat} {kids:List VT}:∀{m j:Nat},j<m->F (Yg kids j)<=hiK F kids m:=by
 intro m
 induction m with
 |zero=>intro j h;omega
 | succ m ih =>
  intro j h
  rw[hiK]
  by_cases e:j=m
  ·subst e;omega
  ·have:=ih (j:=j) (by omega);omega
theorem Xyd {F:VT->Nat} {kids:List VT} {h:Nat}:∀{m:Nat},(∀j,j<m->F (Yg kids j)<=h)->hiK F kids m<=h:=by
 intro m
 induction m with
 |zero=>intro _;simp[hiK]
 | succ m ih =>
  intro b
  rw[hiK]
  have:=ih (fun j h=>b j (by omega))
  have:=b m (by omega)
  omega


theorem V3 {vs:List VN} (hok:okB vs=true):∀f i,i<vs.length->i<f->goodT f (Xt vs f i):=by
 intro f
 induction f with
 |zero=>intro i _ h;omega
 | succ f ih =>
  intro i b g
  obtain ⟨_,c,_,_⟩:=Xm hok
  rw[Xt]
  refine ⟨?_,fun j hj=> ?_⟩
  ·have:=(c i b).1
   rw[Xnv] at this
   rw[List.length_map]
   exact this
  ·rw[List.length_map] at hj
   have d:=Zw (c i b).2 hj
   rw[G8 hj]
   exact ih _ (by omega) (by omega)
theorem X5f {vs:List VN} (hok:okB vs=true):(Yc vs.length (Xt vs vs.length (vs.length-1)) 0).length=vs.length:=by
 obtain ⟨c,_⟩:=Xm hok
 obtain ⟨h,b⟩:=Xa7 hok
 rw[<-Wg,Xbb vs vs.length (vs.length-1) 0 0 h (by omega) b]
 unfold run
 rw[List.length_map,List.length_range']
 omega
theorem Kx {vs:List VN} (hok:okB vs=true):Yc vs.length (Xt vs vs.length (vs.length-1)) 0=vs:=by
 obtain ⟨c,_⟩:=Xm hok
 obtain ⟨h,b⟩:=Xa7 hok
 rw[<-Wg,Xbb vs vs.length (vs.length-1) 0 0 h (by omega) b]
 rw[show vs.length-1+1-0=vs.length by omega,show (((0:Nat):Int)-((0:Nat):Int))=0 by omega,Xke]
 have:(X5 0)=id:=by funext x;exact Xu2 x
 rw[this,List.map_id]
theorem X4m {f sh:Nat} {kids:List VT} {vs:List VN} {x:VN} (hk:∀j,j<(Xx f sh kids kids.length++ [x]).length->Xb vs (sh+j)=Xb (Xx f sh kids kids.length++ [x]) j) {k:Nat} (hkl:k<kids.length):
  ∀j,j<(Yc f (Yg kids k) (sh+(Xx f sh kids k).length)).length->Xb vs (sh+(Xx f sh kids k).length+j)=Xb (Yc f (Yg kids k) (sh+(Xx f sh kids k).length)) j:=by
 intro j g
 have d:(Xx f sh kids (k+1)).length=(Xx f sh kids k).length+(Yc f (Yg kids k) (sh+(Xx f sh kids k).length)).length:=by rw[Zg f sh hkl,List.length_append]
 obtain ⟨l,b⟩:=Xnw f sh kids (show k+1<=kids.length by omega) (Nat.le_refl _)
 have c:=congrArg List.length b
 rw[List.length_append] at c
 have:=hk ((Xx f sh kids k).length+j) (by rw[List.length_append];omega)
 rw[Z0 (by omega),b,Z0 (by omega),Zg f sh hkl,Zy (by omega)] at this
 rw[Nat.add_assoc,this,Nat.add_sub_cancel_left]
theorem Xfh:∀{f:Nat} {t:VT},Ge f t->∀(vs:List VN) (sh g:Nat),f<=g->(∀j,j<(Yc f t sh).length->Xb vs (sh+j)=Xb (Yc f t sh) j)->Xt vs g (sh+(Yc f t sh).length-1)=t:=by
 intro f
 induction f with
 |zero=>intro t h;exact h.elim
 | succ f ih =>
  intro t h vs sh g y l
  obtain ⟨g,rfl⟩:∃k,g=k+1:=⟨g-1,by omega⟩
  obtain ⟨d,n,s,keys,kids⟩:=t
  rw[Qw] at l|-
  have b:=l (Xx f sh kids kids.length).length (by rw[List.length_append,List.length_cons];omega)
  rw[Zy (Nat.le_refl _),Nat.sub_self] at b
  have c:Xb vs (sh+(Xx f sh kids kids.length).length)={d:=d,n:=n,s:=s,keys:=keys,kids:=ksT f sh kids kids.length}:=b
  rw[List.length_append,List.length_cons,List.length_nil,show sh+((Xx f sh kids kids.length).length+(0+1))-1=sh+(Xx f sh kids kids.length).length by omega,Xt,c]
  have p:∀k,k<=kids.length->(ksT f sh kids k).map (fun x=>Xt vs g x.toNat)=kids.take k:=by
   intro k
   induction k with
   |zero=>intro _;rw[Q3];rfl
   | succ k ihk =>
    intro q
    have o:(Xx f sh kids (k+1)).length=(Xx f sh kids k).length+(Yc f (Yg kids k) (sh+(Xx f sh kids k).length)).length:=by rw[Zg f sh (by omega),List.length_append]
    rw[Qs f sh (by omega),List.map_append,ihk (by omega),Xdj (by omega)]
    have e:=ih (h k (by omega)) vs (sh+(Xx f sh kids k).length) g (by omega) (X4m l (by omega))
    congr 1
    rw[List.map_cons,List.map_nil,show (((sh+(Xx f sh kids (k+1)).length:Nat):Int)-1).toNat=sh+(Xx f sh kids k).length+(Yc f (Yg kids k) (sh+(Xx f sh kids k).length)).length-1 by omega,e]
  dsimp only
  rw[p _ (Nat.le_refl _),List.take_length]


def J6 (L:Nat->List VN):Nat->Nat
 |0=>1
 |i+1=>off (J1 (L i)) (J2 (L i)) (J6 L i) (L i).length
theorem X3i {vs:List VN} (h:Few vs) (k:Nat):∀i,i<=vs.length->off (J1 vs) (J2 vs) k i<=k+i *163:=by
 intro i
 induction i with
 |zero=>intro _;simp[off]
 | succ i ih =>
  intro b
  have c:=ih (by omega)
  have d:=h.2 i (by omega)
  rw[off]
  unfold J1 J2 at *
  omega
theorem Xkc {L:Nat->List VN} {m:Nat} (h:∀i,i<m->Few (L i)):∀i,i<=m->1<=J6 L i/\J6 L i<=1+i *13040:=by
 intro i
 induction i with
 |zero=>intro _;simp[J6]
 | succ i ih =>
  intro c
  have d:=ih (by omega)
  have b:=h i (by omega)
  have f:=X3i b (J6 L i) (L i).length (Nat.le_refl _)
  have g:=Xwu (J1 (L i)) (J2 (L i)) (J6 L i) (L i).length
  have j:=b.1
  rw[J6]
  omega
def HRow (w:World) (r:Value) (vs:List VN) (K I:Nat->Value) (k:Nat):Prop:=
 ∀j,j<vs.length->HNode w (blk r) j (J1 vs j) (J2 vs j) (blk (K j)) (blk (I j)) (off (J1 vs) (J2 vs) k j)
theorem HRow.below {w w':World} {r:Value} {vs:List VN} {K I:Nat->Value} {k:Nat} (h:HRow w r vs K I k) (hb:Below w.heap.size w w'):HRow w' r vs K I k:=fun j hj=>(h j hj).below hb
theorem HRow.low {base lo:Nat} {w w' W:World} {r:Value} {vs:List VN} {K I:Nat->Value} {k:Nat} (h:HRow w r vs K I k) (hn:Nest base W r vs K I) (hin:∀x,Uv r vs.length K I x->x<lo) (hb:Below lo w w'):HRow w' r vs K I k:=by
 intro j b
 refine (h j b).keep hb.size (fun q _=> ?_) (fun hp q=> ?_) (fun hp q=> ?_)
 ·exact Xc hb (hin _ (Or.inl (Xc3 hn.row (by omega))))
 ·exact Xc hb (hin _ (Or.inr ⟨j,b,Or.inl (Xc3 (hn.rk j b) hp)⟩))
 ·exact Xc hb (hin _ (Or.inr ⟨j,b,Or.inr (Xc3 (hn.ri j b) hp)⟩))
theorem Xx3 {P:Nat->Prop} {w w':World} {base e s n:Nat} {v:Value} {xs:List Value} (h:w.ownsRow base e s v n xs) (ho:Only P w w') (hP:∀x,P x->v.ownBlock≠some x):w'.ownsRow base e s v n xs:=by
 refine ⟨h.1, ?_⟩
 rcases h.2 with hn|⟨g,cap,cur,rfl,hg,hgg,rest⟩
 ·exact .inl hn
 ·exact .inr ⟨g,cap,cur,rfl,hg,(ho.2 g (h.lt g rfl).2 (fun p=>hP g p rfl)).trans hgg,rest⟩
structure Held2 (w:World) (base:Nat) (v:Value) (m:Nat) (L:Nat->List VN) (rs:Nat->Value) (KV IV:Nat->Nat->Value):Prop where
 row:w.ownsRow base 25 1 v m ((List.range m).map rs)
 held:∀i,i<m->HRow w (rs i) (L i) (KV i) (IV i) (J6 L i)
theorem Held2.below {w w':World} {base:Nat} {v:Value} {m:Nat} {L:Nat->List VN} {rs:Nat->Value} {KV IV:Nat->Nat->Value} (h:Held2 w base v m L rs KV IV) (hb:Below w.heap.size w w'):Held2 w' base v m L rs KV IV:=
 ⟨Z1 h.row hb (fun x hx=>(h.row.lt x hx).2),fun i hi=>(h.held i hi).below hb⟩
set_option maxRecDepth 100000 in
theorem Xiv (base:Nat) (v:Value) (m:Nat) (L:Nat->List VN) (rs:Nat->Value) (KV IV:Nat->Nat->Value) (lo:Nat->Nat) (w:World) (h:Rows2 base w v m L rs KV IV lo) (hm:m<=80) (hf:∀i,i<m->Few (L i)):
  Calls Tryz.prog 20 #[v, .int .i64 1] w fun e w'=>e= .returned (.int .i64 (J6 L m:Nat))/\Held2 w' base v m L rs KV IV/\Below base w w':=by
 have H:=Xa h
 have T:=Xa hf
 obtain ⟨a,c,e⟩:=Xg h.row
 subst e
 clear h hf
 go_enter Tryz.func20,Tryz.ntmps20
 go_wp2_with fail
 go_loopw [1,5] (fun q i wr=>∃k:Nat,k<=m/\q= .int .i64 (J6 L k:Nat)/\i= .int .i64 k/\Below base w wr/\wr.ownsRow base 25 1 (.slice a m c) m ((List.range m).map rs)/\(∀j,k<=j->j<m->Nest (lo j) wr (rs j) (L j) (KV j) (IV j))/\(∀j,j<k->HRow wr (rs j) (L j) (KV j) (IV j) (J6 L j))) (fun _ i _=>m-(intOf i).toNat)
 case atStart=>exact ⟨0,Nat.zero_le _,rfl,rfl,Below.refl _ _,H.out.row,fun j _ S=>H.out.nest j S,fun j S=>absurd S (by omega)⟩
 case round=>
  obtain ⟨k,V,rfl,rfl,b,t,d,f⟩:=hrel
  have G:=Xa t
  have HN:=Xa d
  have HH:=Xa f
  have hs:=b.size
  clear t d f
  have ob:=Xkc T.out k V
  by_cases hlt:k<m
  ·obtain ⟨g,bh,e,_,bi⟩:=G.out.form (by omega)
   cases e
   have X:=HN.out k (Nat.le_refl _) hlt
   have y:=Xa X
   obtain ⟨ak,ck,R⟩:=Xg X.row
   have z:wr.cell? ⟨g,k,none⟩=some (rs k):=by rw[G.out.cellAt k (by omega)];simp[hlt]
   obtain ⟨B,p⟩:∃B,(L k).length=B:=⟨_,rfl⟩
   rw[p] at R
   rw[R] at z
   have C:=Xa R
   have s:=Xa p
   have bg:B<=80:=by rw[<-p];exact (T.out k hlt).1
   have Y:lo k<=wr.heap.size:=by have:=H.out.mono k m (by omega) (Nat.le_refl _);have:=H.out.top;omega
   have Z:=Xa (Nest.mark (by rw[<-C.out];exact y.out) s.out (T.out k hlt))
   have J:Hid (J6 L (k+1)=off (J1 (L k)) (J2 (L k)) (J6 L k) B):=by rw[Hid,<-s.out];rfl
   clear X R p
   have ba:Hid (∃o,J6 L k=o):=⟨_,rfl⟩
   obtain ⟨o,ho⟩:=ba.out
   rw[ho] at ob J|-
   have bb:=Xa ho
   clear ho
   go_wp2_with fail
   refine (Wn (lo k) _ B ck o ak _ _ _ _ wr Z.out Y (by omega) (by omega) (by omega)).mono ?_
   rintro e w3 ⟨rfl,M,l,D⟩
   rw[<-J.out]
   have P:Hid (∀x,Xal (blk (.slice ak B ck)) B (J1 (L k)) (J2 (L k)) (fun i=>blk (KV k i)) (fun i=>blk (IV k i)) x->Uv (rs k) (L k).length (KV k) (IV k) x):=by
    intro x F
    apply y.out.marked
    rw[C.out,s.out]
    exact F
   have bc:=Xa (b.trans (D.mono (H.out.low k V)))
   have bd:=Xa (Xx3 G.out l (fun x F=>y.out.far G.out (P.out x F)))
   have be:Hid (∀j,k+1<=j->j<m->Nest (lo j) w3 (rs j) (L j) (KV j) (IV j)):=fun j h1 h2=>
    (HN.out j (by omega) h2).from ((From.refl (lo j) wr).only l (fun x F=>Nat.lt_of_lt_of_le (H.out.inn k hlt x (P.out x F)) (H.out.mono (k+1) j h1 (by omega))))
   have bf:Hid (∀j,j<k+1->HRow w3 (rs j) (L j) (KV j) (IV j) (J6 L j)):=by
    intro j S
    by_cases e:j=k
    ·subst e
     intro q hq
     rw[C.out,bb.out]
     exact M q (by rw[<-s.out];exact hq)
    ·exact (HH.out j (by omega)).low (H.out.nest j (by omega)) (fun x F=>Nat.lt_of_lt_of_le (H.out.inn j (by omega) x F) (H.out.mono (j+1) k (by omega) V)) D
   clear M l D
   go_wp2_with fail
   go_roundw
   case rel=>exact ⟨k+1,by omega,rfl,by go_num,bc.out,bd.out,be.out,bf.out⟩
   case measure=>simp[intOf];omega
  ·obtain rfl:k=m:=by omega
   go_wp2_with fail
   go_ret
   exact ⟨rfl,⟨G.out,HH.out⟩,b⟩
set_option maxRecDepth 100000 in
theorem Xcj (base:Nat) (v:Value) (m:Nat) (L:Nat->List VN) (rs:Nat->Value) (KV IV:Nat->Nat->Value) (lo:Nat->Nat) (w W:World) (hW:Rows2 base W v m L rs KV IV lo) (h:Held2 w base v m L rs KV IV) (hm:m<=80) (hf:∀i,i<m->Few (L i)):
  Calls Tryz.prog 21 #[v, .int .i64 1] w fun e w'=>e= .returned (.int .i64 (J6 L m:Nat))/\Below w.heap.size w w':=by
 have H:=Xa h
 have p:=Xa hf
 have V:=Xa hW
 obtain ⟨a,c,e⟩:=Xg h.row
 subst e
 clear h hf hW
 go_enter Tryz.func21,Tryz.ntmps21
 go_wp2_with fail
 go_loopw [1,5] (fun q i wr=>∃k:Nat,k<=m/\q= .int .i64 (J6 L k:Nat)/\i= .int .i64 k/\Below w.heap.size w wr) (fun _ i _=>m-(intOf i).toNat)
 case atStart=>exact ⟨0,Nat.zero_le _,rfl,rfl,Below.refl _ _⟩
 case round=>
  obtain ⟨k,X,rfl,rfl,b⟩:=hrel
  have F:=Xa (H.out.below b)
  have Y:=b.size
  have Z:=Xkc p.out k X
  by_cases hlt:k<m
  ·obtain ⟨g,ba,e,_,bb⟩:=F.out.row.form (by omega)
   cases e
   have s:=Xa (V.out.nest k hlt)
   obtain ⟨C,G,D⟩:=Xg s.out.row
   have l:wr.cell? ⟨g,k,none⟩=some (rs k):=by rw[F.out.row.cellAt k (by omega)];simp[hlt]
   obtain ⟨d,f⟩:∃d,(L k).length=d:=⟨_,rfl⟩
   rw[f] at D
   rw[D] at l
   have t:=Xa D
   have j:=Xa f
   have S:d<=80:=by rw[<-f];exact (p.out k hlt).1
   have J:Hid (0<d->C=some ⟨blk (.slice C d G),0,none⟩):=fun hp=>(Nest.mark (by rw[<-t.out];exact s.out) j.out (p.out k hlt) hp).1
   have y:Hid (J6 L (k+1)=off (J1 (L k)) (J2 (L k)) (J6 L k) d):=by rw[Hid,<-j.out];rfl
   have M:Hid (∀i,i<d->J1 (L k) i<=1048576/\J2 (L k) i<=1048576):=fun i hi=>by
    have:=(p.out k hlt).2 i (by rw[j.out];exact hi)
    unfold J1 J2
    omega
   have z:Hid (∀i,i<d->HNode wr (blk (.slice C d G)) i (J1 (L k) i) (J2 (L k) i) (blk (KV k i)) (blk (IV k i)) (off (J1 (L k)) (J2 (L k)) (J6 L k) i)):=fun i hi=>by
    have:=F.out.held k hlt i (by rw[j.out];exact hi)
    rw[t.out] at this
    exact this
   clear D f
   have P:Hid (∃o,J6 L k=o):=⟨_,rfl⟩
   obtain ⟨o,T⟩:=P.out
   have bc:=Xkc p.out (k+1) (by omega)
   rw[T] at Z y z|-
   clear T
   go_wp2_with fail
   refine (Xjz _ d G o C _ _ (fun i=>blk (KV k i)) (fun i=>blk (IV k i)) wr J.out (by omega) M.out (by omega) (by omega) z.out).mono ?_
   rintro e w3 ⟨rfl,B⟩
   rw[<-y.out]
   have R:=Xa (b.trans (B.mono Y))
   have bd:¬((J6 L (k+1):Int)<0):=by omega
   clear B
   go_wp2_with fail
   go_roundw
   case rel=>exact ⟨k+1,by omega,rfl,by go_num,R.out⟩
   case measure=>simp[intOf];omega
  ·obtain rfl:k=m:=by omega
   go_wp2_with fail
   go_ret
   exact ⟨rfl,b⟩


theorem Xss {keys:List ByteArray} (hr:Qv keys=true) {j:Nat} (hj:j<keys.length):Z6 (Xf keys j)=true/\(0<j->Y4 (Xf keys (j-1)) (Xf keys j)=true):=by
 have:=List.all_eq_true.1 hr j (List.mem_range.2 hj)
 unfold Qh at this
 simp only[Bool.and_eq_true,Bool.or_eq_true,decide_eq_true_eq] at this
 exact ⟨this.1,fun h=>this.2.resolve_left (by omega)⟩
theorem Xbx {s:ByteArray} (h:s.toList= []):s=ByteArray.empty:=by
 exact X4u (by rw[h,ByteArray.toList_eq];rfl)
theorem Xum {kind n:Int} {s:ByteArray} {keys:List ByteArray} {m:Nat} (h:Xds kind n s keys m=true):
  (kind=1/\n=0/\s=ByteArray.empty/\keys= []/\m=0)\/(kind=2/\(n=0\/n=1)/\s=ByteArray.empty/\keys= []/\m=0)\/(kind=3/\(-1000000000000000<=n/\n<=1000000000000000)/\s=ByteArray.empty/\keys= []/\m=0)\/
  (kind=4/\n=0/\s.size<=60/\keys= []/\m=0)\/(kind=5/\n=0/\s=ByteArray.empty/\keys= [])\/(kind=6/\n=0/\s=ByteArray.empty/\keys.length=m/\Qv keys=true):=by
 unfold Xds Xz Yr Zi at h
 simp only[Bool.and_eq_true,List.length_replicate] at h
 obtain ⟨⟨⟨⟨d,b⟩,c⟩,f⟩,v⟩:=h
 by_cases k1:kind=1
 ·subst k1;simp at d b c f;exact .inl ⟨rfl,d,Xbx b,c,f⟩
 by_cases k2:kind=2
 ·subst k2;simp at b c f v;exact .inr (.inl ⟨rfl,v,Xbx b,c,f⟩)
 by_cases k3:kind=3
 ·subst k3;simp at b c f v;exact .inr (.inr (.inl ⟨rfl,v,Xbx b,c,f⟩))
 by_cases k4:kind=4
 ·subst k4;simp[Z6] at d c f v;exact .inr (.inr (.inr (.inl ⟨rfl,d,v.1,c,f⟩)))
 by_cases k5:kind=5
 ·subst k5;simp at d b c;exact .inr (.inr (.inr (.inr (.inl ⟨rfl,d,Xbx b,c⟩))))
 by_cases k6:kind=6
 ·subst k6;simp at d b v;exact .inr (.inr (.inr (.inr (.inr ⟨rfl,d,Xbx b,v.1,v.2⟩))))
 simp[k1,k2,k3,k4,k5,k6] at v


theorem X2a (f:Nat) (kids:List VT):∀k,k<=kids.length->(X8 (fun i=>Yc f (Yg kids i) 0) k).length=((kids.take k).map fun t=>(Yc f t 0).length).sum:=by
 intro k
 induction k with
 |zero=>intro _;rfl
 | succ k ih =>
  intro b
  rw[K7,ih (by omega),Xdj (by omega),List.map_append,List.sum_append]
  simp
theorem X30 (f:Nat) (kind n:Int) (s:ByteArray) (keys:List ByteArray) (kids:List VT):(Yc (f+1) (.mk kind n s keys kids) 0).length=(kids.map fun t=>(Yc f t 0).length).sum+1:=by
 rw[Qw,(X3l f kids _ (Nat.le_refl _)).1,List.length_append,X2a f kids _ (Nat.le_refl _),List.take_length]
 rfl




theorem Xp3 {w w':World} {base e s n:Nat} {v:Value} {xs:List Value} (h:w.ownsRow base e s v n xs) (hb:∀x,v.ownBlock=some x->w'.heap[x]? =w.heap[x]?):w'.ownsRow base e s v n xs:=by
 refine ⟨h.1, ?_⟩
 rcases h.2 with hn|⟨g,cap,cur,rfl,hg,hgg,rest⟩
 ·exact .inl hn
 ·exact .inr ⟨g,cap,cur,rfl,hg,(hb g rfl).trans hgg,rest⟩


theorem Nest.low {base base':Nat} {w:World} {v:Value} {vs:List VN} {KV IV:Nat->Value} (h:Nest base w v vs KV IV) (hb:base'<=base):Nest base' w v vs KV IV:=
 ⟨Qb h.row hb,fun i hi=>Qb (h.rk i hi) hb,fun i hi=>Qb (h.ri i hi) hb,h.dkk,h.dii⟩
end Go.Proofs.YtdjddneidbddpaaGreatDoor
