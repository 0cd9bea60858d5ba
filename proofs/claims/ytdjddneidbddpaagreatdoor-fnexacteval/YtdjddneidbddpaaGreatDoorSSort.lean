import Derived.Test.YtdjddneidbddpaaGreatDoorPsZ
import Derived.Test.YtdjddneidbddpaaGreatDoorIMinA
import Derived.Test.YtdjddneidbddpaaGreatDoorEqSS
import Derived.Test.YtdjddneidbddpaaGreatDoorSpc3
import Derived.Test.YtdjddneidbddpaaGreatDoorByP
import Derived.Test.YtdjddneidbddpaaGreatDoorProg
import Derived.Deep.QuietTactic
import Derived.BigQuiet
import Derived.WalkSmall
namespace Go.Proofs.YtdjddneidbddpaaGreatDoor
set_option linter.unusedSectionVars false
set_option maxRecDepth 100000
set_option maxHeartbeats 6400000
open Go.RowKit
set_option linter.unusedSimpArgs false
set_option linter.unusedVariables false
def Zm (x:VN):Option Int:=
 if x.kind=1 then some 0
 else if x.kind=3 then some (max x.n (-x.n))
 else if x.kind=4 then some (x.s.size:Int)
 else if x.kind=5\/x.kind=6 then some (x.kids.length:Int)
 else none
def Xd (vs:List VN):VN:=Xb vs (vs.length-1)
def Xmi (o:Option Int):List VN:=match o with
 |some n=>Xr 3 n ByteArray.empty
 |none=> []
def Xij (o:Option Int):Int:=match o with
 |some _=>0
 |none=>2
def Gx (vs:List VN):List VN:=if okB vs=true then Xmi (Zm (Xd vs)) else []
def Xas (vs:List VN):Int:=if okB vs=true then Xij (Zm (Xd vs)) else 1
theorem Xdq (n:Int) (h1: -9223372036854775808<=n) (h2:n<=9223372036854775807):Few (Xr 3 n ByteArray.empty)/\∀i,i<(Xr 3 n ByteArray.empty).length->Fits (Xb (Xr 3 n ByteArray.empty) i):=by
 have b:∀i,i<(Xr 3 n ByteArray.empty).length->i=0:=fun i hi=>by simp[Xr] at hi;omega
 refine ⟨⟨by simp[Xr],fun i hi=> ?_⟩,fun i hi=> ?_⟩
 ·obtain rfl:=b i hi
  exact ⟨by simp[Xr,Xb],by simp[Xr,Xb]⟩
 ·obtain rfl:=b i hi
  refine ⟨by simp[Xr,Xb],fun i hi=>absurd hi (by simp[Xr,Xb]),by simp[Xr,Xb],fun i hi=>absurd hi (by simp[Xr,Xb]),by simp[Xr,Xb],by simp[Xr,Xb],by simp[Xr,Xb],by simpa [Xr,Xb] using h1,by simpa [Xr,Xb] using h2⟩
theorem Ju {vs:List VN} (hok:okB vs=true):(Xd vs).kind=1\/(Xd vs).kind=2\/((Xd vs).kind=3/\-1000000000000000<=(Xd vs).n/\(Xd vs).n<=1000000000000000)\/((Xd vs).kind=4/\(Xd vs).s.size<=60)\/((Xd vs).kind=5/\(Xd vs).kids.length<=80)\/((Xd vs).kind=6/\(Xd vs).kids.length<=80):=by
 obtain ⟨j,f,_,g⟩:=Xm hok
 have c:=(f (vs.length-1) (by omega)).1
 have l:=g (vs.length-1) (by omega)
 have b:(Xd vs).kids.length<=80:=by unfold Xd;omega
 change Xz (Xd vs)=true at c
 unfold Xz Zi at c
 simp only[Bool.and_eq_true] at c
 have d:=c.2
 by_cases k1:(Xd vs).kind=1
 ·exact Or.inl k1
 by_cases k2:(Xd vs).kind=2
 ·exact Or.inr (Or.inl k2)
 by_cases k3:(Xd vs).kind=3
 ·simp[k3] at d;exact Or.inr (Or.inr (Or.inl ⟨k3,by omega,by omega⟩))
 by_cases k4:(Xd vs).kind=4
 ·simp[k4,Z4] at d;exact Or.inr (Or.inr (Or.inr (Or.inl ⟨k4,d.1⟩)))
 by_cases k5:(Xd vs).kind=5
 ·exact Or.inr (Or.inr (Or.inr (Or.inr (Or.inl ⟨k5,b⟩))))
 by_cases k6:(Xd vs).kind=6
 ·exact Or.inr (Or.inr (Or.inr (Or.inr (Or.inr ⟨k6,b⟩))))
 simp[k1,k2,k3,k4,k5,k6] at d
theorem Xk5 {vs:List VN} (hok:okB vs=true) {n:Int} (h:Zm (Xd vs)=some n):0<=n/\n<=1000000000000000:=by
 unfold Zm at h
 rcases Ju hok with k|k|⟨k,a,b⟩|⟨k,a⟩|⟨k,a⟩|⟨k,a⟩<;>simp[k] at h<;>omega


theorem Xbc {s N k:Nat} {w W0 W:World} {vs:List VN} {VV:Nat->Value} {u:Value} (hrow:W.rowIs s 52 N (W8 VV k)) (hall:∀j,j<k->ValIs s W0.heap.size W0 vs (j+1) j (VV j)) (hk:Keep s W0.heap.size W0 W) (hsz:W0.heap.size<=W.heap.size) (hs:s<W0.heap.size) (hb:Below s w W)
  (hv:ValIs s W.heap.size W vs (k+1) k u):
  (W.setCell ⟨s,k,none⟩ u).rowIs s 52 N (W8 (fun j=>if j=k then u else VV j) (k+1))/\(∀j,j<k+1->ValIs s (W.setCell ⟨s,k,none⟩ u).heap.size (W.setCell ⟨s,k,none⟩ u) vs (j+1) j (if j=k then u else VV j))/\Below s w (W.setCell ⟨s,k,none⟩ u):=by
 have b:(W.setCell ⟨s,k,none⟩ u).heap.size=W.heap.size:=World.size_setCell _ _ _
 refine ⟨Xub hrow,fun j hj=> ?_,hb.setCell (Nat.le_refl _) _⟩
 by_cases e:j=k
 ·subst e
  rw[if_pos rfl]
  exact ValIs.keep (Keep.setCell W u) (by omega) (by omega) hv
 ·rw[if_neg e]
  exact ValIs.keep (hk.trans (Keep.setCell W u)) (by omega) (by omega) (hall j (by omega))
theorem Xfj (B:Nat) (v:Value) (vs:List VN) (w:World) (h:NodesAt B w v vs) (hB:B<=w.heap.size) (hn1:1<=vs.length) (hn80:vs.length<=80) (hok:∀k,k<vs.length->Xz (Xb vs k)=true/\Z5 vs k=true) (hkn:∀k,k<vs.length->(Xb vs k).kids.length<=k):
  Calls Tryz.prog 59 #[v] w fun e w'=>∃VV:Nat->Value,e= .returned (.slice (some ⟨w.heap.size,0,none⟩) vs.length vs.length)/\
   w'.rowIs w.heap.size 52 vs.length VV/\(∀j,j<vs.length->ValIs w.heap.size w'.heap.size w' vs (j+1) j (VV j))/\Below w.heap.size w w':=by
 obtain ⟨b5,a,b7,rfl,ba⟩:=h
 obtain ⟨b0,o0,rfl,bq,hc⟩:=ba (by omega)
 have bb:=Xa hok
 have HC:=Xa hc
 have b8:=run_make_row' (P:=Tryz.prog) 58 52 .nilIface 16 Tryz.underlying58 Xbb rfl .i64 .i64 vs.length (by omega) (by omega)
 obtain ⟨i0,hi,br,bs,bt⟩:=info_parts Xbb
 go_enter Tryz.func59,Tryz.ntmps59
 go_wp2_with fail
 have bu:(w.alloc (.cells (madeCells #[Value.nilIface] vs.length) 52)).rowIs w.heap.size 52 vs.length (W8 (fun _=>undef) 0):=(World.rowIs_made w _ _ _).congr fun i _=>by simp[W8]
 have bv:Below w.heap.size w (w.alloc (.cells (madeCells #[Value.nilIface] vs.length) 52)):=(Below.refl _ _).alloc (Nat.le_refl _) _
 go_loopw [14] (fun i wr=>∃(k:Nat) (VV:Nat->Value),k<=vs.length/\i= .int .i64 k/\wr.rowIs w.heap.size 52 vs.length (W8 VV k)/\(∀j,j<k->ValIs w.heap.size wr.heap.size wr vs (j+1) j (VV j))/\Below w.heap.size w wr) (fun i _=>vs.length-(intOf i).toNat)
 case atStart=>exact ⟨0,_,Nat.zero_le _,rfl,bu,fun j hj=>by omega,bv⟩
 case round =>
  obtain ⟨k,VV,hk,rfl,J,bh,z⟩:=hrel
  obtain ⟨d,rfl⟩:∃d,d=wr:=⟨_,rfl⟩
  have R:=Xa bh
  by_cases hlt:k<vs.length
  ·obtain ⟨ka,ki,hn⟩:=HC.out k hlt
   have p:=hn.below (z.mono hB) bq
   have c0:=p.c0
   have c1:=p.c1
   have c2:=p.c2
   have c3:=p.c3
   have c4:=p.c4
   have bc:=z.size
   have l:=J.lt
   have HK:=Xa hn.inn.keys
   obtain ⟨_,_,F,G,eK,_⟩:=p.inn.keys
   obtain ⟨b9,ca,V,X,eI,bi⟩:=p.inn.kids
   subst eK eI
   have HR:=Xa J
   go_wp2_with fail
   have x0:(d.alloc (.cells #[.int .i64 (Xb vs k).kind, .int .i64 (Xb vs k).n, .string (Xb vs k).s, .slice F (Xb vs k).keys.length G, .slice V (Xb vs k).kids.length X] 75)).cell? ⟨d.heap.size,0,none⟩=some (.int .i64 (Xb vs k).kind):=by simp
   have x1:(d.alloc (.cells #[.int .i64 (Xb vs k).kind, .int .i64 (Xb vs k).n, .string (Xb vs k).s, .slice F (Xb vs k).keys.length G, .slice V (Xb vs k).kids.length X] 75)).cell? ⟨d.heap.size,1,none⟩=some (.int .i64 (Xb vs k).n):=by simp
   have x2:(d.alloc (.cells #[.int .i64 (Xb vs k).kind, .int .i64 (Xb vs k).n, .string (Xb vs k).s, .slice F (Xb vs k).keys.length G, .slice V (Xb vs k).kids.length X] 75)).cell? ⟨d.heap.size,2,none⟩=some (.string (Xb vs k).s):=by simp
   have x3:(d.alloc (.cells #[.int .i64 (Xb vs k).kind, .int .i64 (Xb vs k).n, .string (Xb vs k).s, .slice F (Xb vs k).keys.length G, .slice V (Xb vs k).kids.length X] 75)).cell? ⟨d.heap.size,3,none⟩=some (.slice F (Xb vs k).keys.length G):=by simp
   have bw:(d.alloc (.cells #[.int .i64 (Xb vs k).kind, .int .i64 (Xb vs k).n, .string (Xb vs k).s, .slice F (Xb vs k).keys.length G, .slice V (Xb vs k).kids.length X] 75)).heap.size=d.heap.size+1:=by simp
   have T:Below d.heap.size d (d.alloc (.cells #[.int .i64 (Xb vs k).kind, .int .i64 (Xb vs k).n, .string (Xb vs k).s, .slice F (Xb vs k).keys.length G, .slice V (Xb vs k).kids.length X] 75)):=(Below.refl _ _).alloc (Nat.le_refl _) _
   have bj:=Xa (HR.out.alloc (.cells #[.int .i64 (Xb vs k).kind, .int .i64 (Xb vs k).n, .string (Xb vs k).s, .slice F (Xb vs k).keys.length G, .slice V (Xb vs k).kids.length X] 75))
   generalize (d.alloc (.cells #[.int .i64 (Xb vs k).kind, .int .i64 (Xb vs k).n, .string (Xb vs k).s, .slice F (Xb vs k).keys.length G, .slice V (Xb vs k).kids.length X] 75))=W1 at *
   have bx:d.heap.size<W1.heap.size:=by omega
   have HX:=Xa (And.intro x0 (And.intro x1 (And.intro x2 x3)))
   have bk:Below w.heap.size w W1:=z.trans (T.mono bc)
   clear bw x0 x1 x2 x3 c0 c1 c2 c3 c4
   go_loopw [6,22] (fun it i wr=>∃c:Nat,c<=(Xb vs k).kids.length/\i= .int .i64 c/\wr.ownsRow W1.heap.size 52 1 it c ((List.range c).map fun j=>VV (Xj (Xb vs k).kids j).toNat)/\Below W1.heap.size W1 wr) (fun _ i _=>(Xb vs k).kids.length-(intOf i).toNat)
   case atStart=>exact ⟨0,Nat.zero_le _,rfl,World.ownsRow_nil _ _ _ _,Below.refl _ _⟩
   case round=>
    obtain ⟨c,cb,rfl,L,b⟩:=hrel
    by_cases hcc:c<(Xb vs k).kids.length
    ·obtain ⟨b1,o1,rfl,b6,Y⟩:=bi (by omega)
     have bl:=Zw (bb.out k hlt).2 hcc
     obtain ⟨q,hq⟩:∃q:Nat,Xj (Xb vs k).kids c=(q:Int):=⟨(Xj (Xb vs k).kids c).toNat,by omega⟩
     have bm:q<k:=by omega
     have cc:wr.cell? ⟨b1,o1+c,none⟩=some (.int .i64 (q:Int)):=by
      rw[<-hq];exact (Xc b (by omega)).trans ((Xc T (by omega)).trans (Y c hcc))
     obtain ⟨tq,xq,bd⟩:=(R.out q bm).iface
     have cd:wr.cell? ⟨w.heap.size,q,none⟩=some (.iface tq xq):=by
      refine (Xc b (by omega)).trans ?_
      rw[bj.out.cell (by omega),W8,if_pos bm,bd]
     have HQ:Hid ((List.range (c+1)).map (fun j=>VV (Xj (Xb vs k).kids j).toNat)=(List.range c).map (fun j=>VV (Xj (Xb vs k).kids j).toNat)++ [.iface tq xq]):=by
      rw[Hid,List.range_succ,List.map_append]
      simp[hq,bd]
     have Z:=b.size
     have bz:=Xa b
     have ce:(Xb vs k).kids.length<=80:=by have:=hkn k hlt;omega
     clear bi Y hq bl bd
     go_wp2_with (at_builtin;refine wpList_append_own _ rfl _ _ 58 rfl W1.heap.size 52 i0 .nilIface 1 16 Tryz.underlying58 hi br bs bt rfl (by decide) _ _ _ rfl (L.alloc _) ⟨wr.heap.size,0,none⟩ 1 1 [.iface tq xq] rfl rfl ?c1 ?c2 ?c3 ?c4 ?c5 ?_)
     case c1=>
      intro j u hj
      match j,hj with
      |0,hj=>simp at hj;subst hj;simp[Addr.add]
     case c2=>intro u hu;simp at hu;subst hu;rfl
     case c3=>unfold maxLen;omega
     case c4=>omega
     case c5=>simp;omega
     intro v' w3 M be _
     have b2:Below W1.heap.size W1 w3:=(bz.out.alloc Z _).grown be (by simp;omega) (fun r hr=>by
      rcases L.2 with ⟨rfl,_⟩|⟨g,cp,cu,rfl,hbg,_⟩
      ·simp[Value.ownBlock] at hr
      ·simp[Value.ownBlock] at hr;omega)
     rw[<-HQ.out] at M
     go_wp2_with fail
     go_roundw
     case rel=>exact ⟨c+1,by omega,by go_num,M,b2⟩
     case measure=>simp[intOf];omega
    ·obtain rfl:c=(Xb vs k).kids.length:=by omega
     have Z:=b.size
     have bf:=Xa (Xoo (lo:=w.heap.size) (P:=fun j u=>ValIs w.heap.size wr.heap.size wr vs k (Xj (Xb vs k).kids j).toNat u) L (by omega) (fun j hj=>by
      have bl:=Zw (bb.out k hlt).2 hj
      obtain ⟨t,x,e⟩:=(R.out (Xj (Xb vs k).kids j).toNat (by omega)).iface
      refine ⟨t,x,e, ?_⟩
      rw[<-e]
      exact ValIs.more (by omega) (ValIs.keep ((Keep.of_below (T)).trans (Keep.of_below (b.mono (by omega)))) (by omega) (by omega) (R.out _ (by omega)))))
     have bn:=bf.out
     obtain ⟨bo,bp,rfl,_⟩:=bn
     have y0:wr.cell? ⟨d.heap.size,0,none⟩=some (.int .i64 (Xb vs k).kind):=(Xc b (by omega)).trans HX.out.1
     have y1:wr.cell? ⟨d.heap.size,1,none⟩=some (.int .i64 (Xb vs k).n):=(Xc b (by omega)).trans HX.out.2.1
     have y2:wr.cell? ⟨d.heap.size,2,none⟩=some (.string (Xb vs k).s):=(Xc b (by omega)).trans HX.out.2.2.1
     have y3:wr.cell? ⟨d.heap.size,3,none⟩=some (.slice F (Xb vs k).keys.length G):=(Xc b (by omega)).trans HX.out.2.2.2
     have bg:=Y4 bj.out b (by omega)
     have z0:=bg.cell hlt
     have z1:=bg.frozen k
     have C:=Xa bg
     have D:Hid (Keep w.heap.size d.heap.size d wr):=(Keep.of_below (T)).trans (Keep.of_below (b.mono (by omega)))
     have y:Hid (Below w.heap.size w wr):=bk.trans (b.mono (by omega))
     have o:d.heap.size<=wr.heap.size:=by omega
     have b3:Hid (StrsAt w.heap.size wr (.slice F (Xb vs k).keys.length G) (Xb vs k).keys):=(HK.out.wide hB).below y.out
     have b4:=Xa (bb.out k hlt).1
     by_cases g2:(Xb vs k).kind=2
     ·have S:=Xbc (u:= .iface 113 (.agg #[.int .i64 (Xb vs k).n])) C.out R.out D.out o l y.out (Or.inr (Or.inl ⟨g2,rfl⟩))
      have f:=Xa S
      go_wp2_with fail
      go_roundw
      case rel=>exact ⟨k+1,_,by omega,by go_num,f.out.1,f.out.2.1,f.out.2.2⟩
      case measure=>simp[intOf];omega
     by_cases g3:(Xb vs k).kind=3
     ·have S:=Xbc (u:= .iface 114 (.agg #[.int .i64 (Xb vs k).n])) C.out R.out D.out o l y.out (Or.inr (Or.inr (Or.inl ⟨g3,rfl⟩)))
      have f:=Xa S
      go_wp2_with fail
      go_roundw
      case rel=>exact ⟨k+1,_,by omega,by go_num,f.out.1,f.out.2.1,f.out.2.2⟩
      case measure=>simp[intOf];omega
     by_cases g4:(Xb vs k).kind=4
     ·have S:=Xbc (u:= .iface 116 (.agg #[.string (Xb vs k).s])) C.out R.out D.out o l y.out (Or.inr (Or.inr (Or.inr (Or.inl ⟨g4,rfl⟩))))
      have f:=Xa S
      go_wp2_with fail
      go_roundw
      case rel=>exact ⟨k+1,_,by omega,by go_num,f.out.1,f.out.2.1,f.out.2.2⟩
      case measure=>simp[intOf];omega
     by_cases g5:(Xb vs k).kind=5
     ·have S:=Xbc (u:= .iface 158 (.agg #[.slice bo (Xb vs k).kids.length bp])) C.out R.out D.out o l y.out (Or.inr (Or.inr (Or.inr (Or.inr (Or.inl ⟨g5,_,rfl,bf.out⟩)))))
      have f:=Xa S
      go_wp2_with fail
      go_roundw
      case rel=>exact ⟨k+1,_,by omega,by go_num,f.out.1,f.out.2.1,f.out.2.2⟩
      case measure=>simp[intOf];omega
     by_cases g6:(Xb vs k).kind=6
     ·have S:=Xbc (u:= .iface 118 (.agg #[.slice F (Xb vs k).keys.length G, .slice bo (Xb vs k).kids.length bp])) C.out R.out D.out o l y.out (Or.inr (Or.inr (Or.inr (Or.inr (Or.inr ⟨g6,_,_,rfl,b3.out,bf.out⟩)))))
      have f:=Xa S
      go_wp2_with fail
      go_roundw
      case rel=>exact ⟨k+1,_,by omega,by go_num,f.out.1,f.out.2.1,f.out.2.2⟩
      case measure=>simp[intOf];omega
     ·have g1:(Xb vs k).kind=1:=by
       have:=b4.out
       unfold Xz Zi at this
       by_cases e1:(Xb vs k).kind=1
       ·exact e1
       ·simp[e1,g2,g3,g4,g5,g6] at this
      have S:=Xbc (u:= .iface 160 (.agg #[])) C.out R.out D.out o l y.out (Or.inl ⟨g1,rfl⟩)
      have f:=Xa S
      go_wp2_with fail
      go_roundw
      case rel=>exact ⟨k+1,_,by omega,by go_num,f.out.1,f.out.2.1,f.out.2.2⟩
      case measure=>simp[intOf];omega
  ·obtain rfl:k=vs.length:=by omega
   go_wp2_with fail
   go_ret
   exact ⟨VV,rfl,J.congr fun i hi=>by simp[W8,hi],R.out,z⟩


theorem Xl4 (B base f:Nat) (hB:B<=base) (ih:Xjw B base f) (keys:List ByteArray) (kids:List VT) (kv0 it v:Value) (ns:List VN) (KV IV:Nat->Value) (w:World) (hks:StrsAt B w kv0 keys) (hit:Q8 B w it kids.length (fun j u=>TreeAt B w f (Yf kids j) u)) (h:Nest base w v ns KV IV) (hb:base<=w.heap.size) (hn:ns.length+(Xx f ns.length kids kids.length).length+1<=100000):
  Calls Tryz.prog 31 #[v, .iface 118 (.agg #[kv0,it])] w fun e w'=>∃v' KV' IV',e= .returned v'/\Laid base w w' v v' ns (Xx f ns.length kids kids.length++ [{kind:=6,n:=0,s:=ByteArray.empty,keys:=keys,kids:=ksT f ns.length kids kids.length}]) KV IV KV' IV':=by
 have H:=Xa h
 obtain ⟨av,cv,rfl⟩:=Xg h.row
 clear h
 obtain ⟨ch,ai,ci,rfl,hx⟩:=hit
 have HX:=Xa hx
 have bb:=Xa hks
 obtain ⟨cj,_,aK,cK,rfl,_⟩:=hks
 have IH:=Xa ih
 clear hx ih
 have cl:=Xch
 have cm:=Un
 have cn:=Ww
 have cp:=Xdb
 obtain ⟨i0,bq,br,bs,bt⟩:=info_parts Kj
 obtain ⟨i1,bu,bv,bw,bx⟩:=info_parts Wh
 obtain ⟨i2,bz,b0,b1,b2⟩:=info_parts Wg
 go_enter Tryz.func31,Tryz.ntmps31
 go_wp2_with fail
 refine (K3 _ _ _ _ _ _ _).mono ?_
 rintro e l ⟨rfl,bc⟩
 have b3:=Xa bc
 go_wp2_with fail
 refine (Ul _ _ _ _ _ _ _).mono ?_
 rintro e w2 ⟨rfl,ba⟩
 have C:=Xa (Mid.start H.out hb b3.out ba)
 have z2:l.heap.size<w2.heap.size:=by have:=ba.size;simp at this;omega
 clear bc ba
 go_wp2_with fail
 go_loopw [0,18] (fun o i wr=>∃(k:Nat) (Y:Value) (KV' IV':Nat->Value),k<=kids.length/\i= .int .i64 k/\Mid base w wr l.heap.size (.slice av ns.length cv) o Y ns (Xx f ns.length kids k) (ksT f ns.length kids k) [.int .i64 6, .int .i64 0, .string ⟨#[]⟩, .slice none 0 0,Y] KV IV KV' IV') (fun _ i _=>kids.length-(intOf i).toNat)
 case atStart=>exact ⟨0,_,_,_,Nat.zero_le _,rfl,by rw[Qk,Q0];exact C.out⟩
 case round=>
  obtain ⟨k,Y,KV',IV',hk,rfl,hm⟩:=hrel
  clear C z2
  have C:=Xa hm
  obtain ⟨ao,co,ho⟩:=Xg hm.nest.row
  obtain ⟨M,hM⟩:∃M,(ns++Xx f ns.length kids k).length=M:=⟨_,rfl⟩
  have bd:=Xa hM
  have be:=Xa8 f ns.length kids k
  rw[hM] at ho
  subst ho
  have cq:=hm.frame.size
  have cr:M+1<=100000:=by rw[<-hM,List.length_append];omega
  clear hm hM
  by_cases hlt:k<kids.length
  ·obtain ⟨b,rfl,b4,hc⟩:=HX.out (by omega)
   obtain ⟨t,x,T,bf⟩:=hc k hlt
   have cg:wr.cell? ⟨b,k,none⟩=some (.iface t x):=(World.cell?_of_block (C.out.keepB hB b b4)).trans T
   have HT:=Xa (TreeAt.keep (C.out.keepB hB) (Nat.le_refl _) bf)
   have D:=Xa8 f ns.length kids (k+1)
   have HA:=Xa (Zg f ns.length hlt)
   have bg:Hid ((ns++Xx f ns.length kids k).length=ns.length+(Xx f ns.length kids k).length):=List.length_append
   clear hc T bf
   go_wp2_with fail
   refine (IH.out (Yf kids k) (.iface t x) _ (ns++Xx f ns.length kids k) KV' IV' wr C.out.nest HT.out (by omega) (by rw[bg.out];rw[HA.out,List.length_append] at D;omega)).mono ?_
   rintro e w3 ⟨v3,b5,b6,rfl,hl⟩
   have V:=C.out.laid hl
   rw[bg.out,<-HA.out] at V
   have F:=Xa V
   obtain ⟨a3,c3,h3⟩:=Xg V.nest.row
   obtain ⟨L,hL⟩:∃L,(ns++Xx f ns.length kids (k+1)).length=L:=⟨_,rfl⟩
   rw[hL] at h3
   subst h3
   have cs:L<=100000:=by rw[<-hL,List.length_append];omega
   have b7:Hid (ksT f ns.length kids (k+1)=ksT f ns.length kids k++ [(L:Int)-1]):=by rw[Hid,Qp f ns.length hlt,<-hL,List.length_append]
   have bh:=Xcr f ns.length kids hk
   have X:=Xa bh
   have y4:w3.cell? ⟨l.heap.size,4,none⟩=some Y:=F.out.node.cellAt 4 (by omega)
   have ct:1<=L:=by
    have:=Xmu HT.out (ns.length+(Xx f ns.length kids k).length)
    rw[<-hL,HA.out,List.length_append,List.length_append]
    omega
   have bi:=Xa F.out.kids
   obtain ⟨R,S,bj⟩:=Xg bi.out
   rw[X.out] at bj
   subst bj
   have b8:=Xa F.out.frame.size
   clear V hl hL bh be D
   go_wp2_with (at_builtin;refine wpList_append_own_at _ rfl _ _ 73 rfl w.heap.size 2 i2 (.int .i64 0) 1 8 Tryz.underlying73 bz b0 b1 b2 rfl (by decide) _ _ _ rfl (bi.out.alloc _) ⟨w3.heap.size,0,none⟩ 1 1 [.int .i64 ((L:Int)-1)] rfl rfl ?c1 ?c2 ?c3 ?c4 ?c5 ?_)
   case c1=>exact cell_one_new _ _ _
   case c2=>intro u hu;simp at hu;subst hu;rfl
   case c3=>rw[X.out];simp[maxLen];omega
   case c4=>rw[X.out];omega
   case c5=>have:=b8.out;simp;omega
   intro cu G g d _ J
   obtain ⟨cw,cx,bl⟩:=Xg g
   rw[X.out] at bl
   subst bl
   have n5:=Xik F.out d
   have x4:G.cell? ⟨l.heap.size,4,none⟩=some (.slice R k S):=n5.cellAt 4 (by omega)
   have f4:G.frozen? ⟨l.heap.size,4,none⟩=false:=n5.frozenAt 4
   have b9:=Xa (F.out.kid g d (by simpa using J))
   clear g d J n5
   go_wp2_with fail
   go_roundw
   case rel=>exact ⟨k+1,_,b5,b6,by omega,by go_num,by rw[b7.out];exact b9.out⟩
   case measure=>simp[intOf];omega
  ·obtain rfl:k=kids.length:=by omega
   have zw:=(C.out.node.lt _ rfl).2
   have y3:wr.cell? ⟨l.heap.size,3,none⟩=some (.slice none 0 0):=C.out.node.cellAt 3 (by omega)
   have bm:Hid (0<keys.length->∃ad,aK=some ad/\∀j u,(keys.map Value.string)[j]? =some u->(wr.alloc (.cells #[.slice aK keys.length cK, .slice ai kids.length ci] 118)).cell? (ad.add j)=some u):=by
    intro hp
    obtain ⟨_,_,cy,cz,e,T⟩:=bb.out
    cases e
    obtain ⟨bk,ok,rfl,ca,cb⟩:=T hp
    refine ⟨_,rfl,fun j u hj=> ?_⟩
    have bn:j<keys.length:=by have:=(List.getElem?_eq_some_iff.1 hj).1;simpa using this
    have cc:bk<wr.heap.size:=by omega
    rw[show (⟨bk,ok,none⟩:Addr).add j=⟨bk,ok+j,none⟩ by simp[Addr.add],Xc ((Below.refl _ wr).alloc (Nat.le_refl _) _) cc,World.cell?_of_block (C.out.keepB hB bk ca),cb j bn]
    simp[bn,Xf] at hj|-
    exact hj
   go_wp2_with (at_builtin;refine Yd rfl _ _ 72 rfl w.heap.size 9 i1 (.string ByteArray.empty) 1 16 Tryz.underlying72 bu bv bw bx rfl (by decide) _ 0 [] rfl (World.ownsRow_nil _ _ _ _) aK keys.length cK (keys.map .string) rfl (by simp) bm.out ?c2 ?c3 ?c4 ?c5 ?_)
   case c2=>intro u hu;first|rfl|(obtain ⟨q,_,rfl⟩:=List.mem_map.1 hu;rfl)
   case c3=>unfold maxLen;omega
   case c4=>omega
   case c5=>first|omega|(simp;omega)
   intro vk G P bo Z
   (try simp only[Nat.zero_add,List.nil_append] at P)
   have p:=(C.out.grow (World.grownBy_alloc wr _ none)).grow bo
   have bp:=P.kept (p.node.stored 3 vk).2 (Yj P p.node (by decide))
   have cd:=Xa bp
   have z:=Xa (p.put 3 vk)
   have ce:Hid (∀j,j<ns.length+(Xx f ns.length kids kids.length).length->∀y,vk.ownBlock=some y->(KV' j).ownBlock≠some y):=by
    intro j hj y hy e
    have h1:=((C.out.nest.rk j (by simpa using hj)).lt y e).2
    rcases Z with e2|e2
    ·rw[e2] at hy;simp[Value.ownBlock] at hy
    ·rw[e2] at hy;simp at hy;omega
   obtain ⟨R,S,cf⟩:=Xg P
   subst cf
   have x3:G.cell? ⟨l.heap.size,3,none⟩=some (.slice none 0 0):=p.node.cellAt 3 (by omega)
   have f3:G.frozen? ⟨l.heap.size,3,none⟩=false:=p.node.frozenAt 3
   have c6:=p.frame.size
   have X0:(G.setCell ⟨l.heap.size,3,none⟩ (.slice R keys.length S)).cell? ⟨l.heap.size,0,none⟩=some (.int .i64 6):=z.out.node.cellAt 0 (by omega)
   have X1:(G.setCell ⟨l.heap.size,3,none⟩ (.slice R keys.length S)).cell? ⟨l.heap.size,1,none⟩=some (.int .i64 0):=z.out.node.cellAt 1 (by omega)
   have X2:(G.setCell ⟨l.heap.size,3,none⟩ (.slice R keys.length S)).cell? ⟨l.heap.size,2,none⟩=some (.string ⟨#[]⟩):=z.out.node.cellAt 2 (by omega)
   have X3:(G.setCell ⟨l.heap.size,3,none⟩ (.slice R keys.length S)).cell? ⟨l.heap.size,3,none⟩=some (.slice R keys.length S):=z.out.node.cellAt 3 (by omega)
   have X4:(G.setCell ⟨l.heap.size,3,none⟩ (.slice R keys.length S)).cell? ⟨l.heap.size,4,none⟩=some Y:=z.out.node.cellAt 4 (by omega)
   have HN:=Xa (z.out.nest.row.alloc (.cells #[.int .i64 6, .int .i64 0, .string ⟨#[]⟩, .slice R keys.length S,Y] 75))
   rw[bd.out] at HN
   have h1:Y.oneCell'=true:=by obtain ⟨a,c,rfl⟩:=Xg C.out.kids;rfl
   clear p bp P bo Z y3
   go_wp2_with (at_builtin;refine wpList_append_own_at _ rfl _ _ 25 rfl base 75 i0 zeroNode 5 80 Tryz.underlying25 bq br bs bt rfl (by decide) _ _ _ rfl HN.out ⟨G.heap.size,0,none⟩ 1 1 [.int .i64 6, .int .i64 0, .string ⟨#[]⟩, .slice R keys.length S,Y] rfl rfl ?c1 ?c2 ?c3 ?c4 ?c5 ?_)
   case c1=>exact Xd3 _ _ _ _ _ _ _ (by simp)
   case c2=>intro u hu;simp at hu;rcases hu with rfl|rfl|rfl|rfl|rfl<;>first|rfl|exact h1
   case c3=>unfold maxLen;omega
   case c4=>omega
   case c5=>simp;omega
   intro v' w6 g d _ J
   have HL:=Xa (Mid.fin (x:={kind:=6,n:=0,s:=⟨#[]⟩,keys:=keys,kids:=ksT f ns.length kids kids.length}) z.out rfl cd.out ce.out (by rw[bd.out];exact g) d (by simpa using J))
   clear g d J
   go_wp2_with fail
   go_ret
   exact ⟨_,_,_,rfl,HL.out⟩
theorem Xed (B base:Nat) (hB:B<=base):∀f,Xjw B base f:=by
 intro f
 induction f with
 |zero=>intro t x v c d g w _ h;exact h.elim
 |succ f ih=>
  intro t x v c d g w b h l j
  obtain ⟨o,n,s,keys,kids⟩:=t
  rw[Qt] at j|-
  rcases h with ⟨rfl,rfl,rfl,rfl,rfl,rfl⟩|⟨rfl,rfl,rfl,rfl,rfl⟩|⟨rfl,rfl,rfl,rfl,rfl⟩|⟨rfl,rfl,rfl,rfl,rfl⟩|⟨rfl,rfl,rfl,rfl,it,rfl,hi⟩|⟨rfl,rfl,rfl,ks,it,rfl,hs,hi⟩
  ·have:=Xki base v c d g w b l (by simp at j;omega)
   simpa [Xx,ksT,Zq] using this
  ·have:=Xkj n base v c d g w b l (by simp at j;omega)
   simpa [Xx,ksT,Zq] using this
  ·have:=Xmb n base v c d g w b l (by simp at j;omega)
   simpa [Xx,ksT,Zq] using this
  ·have:=Xkk s base v c d g w b l (by simp at j;omega)
   simpa [Xx,ksT,Zq] using this
  ·exact Xjx B base f hB ih kids it v c d g w hi b l (by simp at j;omega)
  ·exact Xl4 B base f hB ih keys kids ks it v c d g w hs hi b l (by simp at j;omega)


def Zf (ks:List ByteArray):Nat->Option (List ByteArray×List Nat)
 |0=>some ([],[])
 |i+1=>match Zf ks i with
  |none=>none
  |some (ns,ps)=>if Yz ns (Xf ks i)=true then none else some (ns.take (Zz ns (Xf ks i))++ [Xf ks i]++ns.drop (Zz ns (Xf ks i)),ps.take (Zz ns (Xf ks i))++ [i]++ps.drop (Zz ns (Xf ks i)))
theorem Gl {ks:List ByteArray}:∀{i:Nat} {ns:List ByteArray} {ps:List Nat},Zf ks i=some (ns,ps)->ns.length=i/\ps.length=i:=by
 intro i
 induction i with
 |zero=>intro ns ps h;simp[Zf] at h;obtain ⟨rfl,rfl⟩:=h;exact ⟨rfl,rfl⟩
 |succ i ih=>
  intro ns ps h
  rw[Zf] at h
  split at h
  ·cases h
  ·rename_i ns0 ps0 h0
   obtain ⟨b,c⟩:=ih h0
   split at h
   ·cases h
   ·injection h with h
    injection h with e1 e2
    subst e1 e2
    have:=(Xlp (l:=ns0) (Xf ks i)).1
    simp
    omega
theorem Gm {ks:List ByteArray}:∀{i:Nat} {ns:List ByteArray} {ps:List Nat},Zf ks i=some (ns,ps)->∀x∈ps,x<i:=by
 intro i
 induction i with
 |zero=>intro ns ps h;simp[Zf] at h;obtain ⟨rfl,rfl⟩:=h;simp
 |succ i ih=>
  intro ns ps h
  rw[Zf] at h
  split at h
  ·cases h
  ·rename_i ns0 ps0 h0
   split at h
   ·cases h
   ·injection h with h
    injection h with e1 e2
    subst e1 e2
    intro x b
    simp only[List.mem_append,List.mem_singleton] at b
    rcases b with (b|b)|b
    ·have:=ih h0 x (List.mem_of_mem_take b);omega
    ·omega
    ·have:=ih h0 x (List.mem_of_mem_drop b);omega
theorem Xrr {ks:List ByteArray} {i j:Nat} (h:Zf ks i=none) (hij:i<=j):Zf ks j=none:=by
 obtain ⟨d,rfl⟩:∃d,j=i+d:=⟨j-i,by omega⟩
 clear hij
 induction d with
 |zero=>exact h
 |succ d ih=>rw[<-Nat.add_assoc,Zf,ih]
theorem Xi1 {ks:List ByteArray} {i j:Nat} {ns:List ByteArray} {ps:List Nat} (h:Zf ks i=some (ns,ps)) (hj:Zz ns (Xf ks i)=j) (hn:Yz ns (Xf ks i)=false):Zf ks (i+1)=some (ns.take j++ [Xf ks i]++ns.drop j,ps.take j++ [i]++ps.drop j):=by
 rw[Zf,h]
 simp only[hn,hj]
 rfl
theorem Xpt {ks:List ByteArray} {i:Nat} {ns:List ByteArray} {ps:List Nat} (h:Zf ks i=some (ns,ps)) (hn:Yz ns (Xf ks i)=true):Zf ks (i+1)=none:=by
 rw[Zf,h]
 simp only[hn]
 rfl
theorem Xkg {l:List ByteArray} {key:ByteArray} {j:Nat} (hj:Zz l key=j):Yz l key=(decide (j<l.length)&&decide ((Xf l j).toList=key.toList)):=by unfold Yz;rw[hj]
theorem Xfo {l:List ByteArray} {j:Nat} (hj:j<l.length):(l.map Value.string)[j]? =some (.string (Xf l j)):=by
 rw[List.getElem?_map,List.getElem?_eq_getElem hj]
 simp[Xf,hj]
def Xss (B:Nat) (w:World) (v:Value) (m:Nat) (cs:Nat->Value):Prop:=
 ∃a cap,v= .slice a m cap/\(∀i,i<m->∃a n c,cs i= .slice a n c)/\(0<m->∃b o,a=some ⟨b,o,none⟩/\b<B/\∀i,i<m->w.cell? ⟨b,o+i,none⟩=some (cs i))
theorem Wr {w:World} {base e s n x:Nat} {v:Value} {xs:List Value} (h:w.ownsRow base e s v n xs) (hx:v.ownBlock=some x):∃cap,v= .slice (some ⟨x,0,none⟩) n cap/\n<=cap:=by
 rcases h.2 with ⟨rfl,_⟩|⟨g,cap,cur,rfl,_,_,hnc,_⟩
 ·simp[Value.ownBlock] at hx
 ·simp[Value.ownBlock] at hx
  subst hx
  exact ⟨cap,rfl,hnc⟩
theorem Xgd:Tryz.prog.elem 72=9:=by kernel_rfl
theorem Xge:Tryz.prog.elem 28=25:=by kernel_rfl
theorem Xst (w:World):(sizeOf 9).run Tryz.prog w= .ok 1 w:=by
 obtain ⟨i,b,d,c,f⟩:=info_parts Wh
 simp[sizeOf,typeInfo,b,c]
theorem Xpu:(Tryz.prog.info? 25).map (fun i=>(i.zero,i.size,i.bytes))=some (some (.slice none 0 0),1,24):=by kernel_rfl
theorem Xsu (w:World):(sizeOf 25).run Tryz.prog w= .ok 1 w:=by
 obtain ⟨i,b,d,c,f⟩:=info_parts Xpu
 simp[sizeOf,typeInfo,b,c]
theorem Xlk (g j cap:Nat):sliced (some ⟨g,0,none⟩) 0 j cap 1= .slice (some ⟨g,0,none⟩) j cap:=by
 unfold sliced
 split
 ·rename_i h;subst h;simp
 ·simp[Addr.add]
theorem Xgx (g j n cap:Nat):∃ad,sliced (some ⟨g,0,none⟩) j n cap 1= .slice (some ad) (n-j) (cap-j)/\(j<n->n<=cap->ad=⟨g,j,none⟩):=by
 unfold sliced
 split
 ·rename_i h;subst h;exact ⟨_,rfl,fun h1 h2=>by omega⟩
 ·exact ⟨_,rfl,fun _ _=>by simp[Addr.add];intro h;exact h.symm⟩
theorem X3o (g n cap j:Nat) (hj:j<=cap) (w:World):(Instr.slice 72 (.slice (some ⟨g,0,none⟩) n cap) none (some (.int .i64 (j:Int))) none).run Tryz.prog w= .ok (.slice (some ⟨g,0,none⟩) j cap) w:=by
 rw[run_slice_h (P:=Tryz.prog) (w:=w) 72 (some ⟨g,0,none⟩) n cap (by rw[Xgd];exact Tryz.underlying72) .i64 j (by omega) (by omega),Xgd,Xst]
 simp only[Result.andThen,Int.toNat_natCast,Xlk]
theorem X3p (g n cap j:Nat) (hj:j<=cap) (w:World):(Instr.slice 28 (.slice (some ⟨g,0,none⟩) n cap) none (some (.int .i64 (j:Int))) none).run Tryz.prog w= .ok (.slice (some ⟨g,0,none⟩) j cap) w:=by
 rw[run_slice_h (P:=Tryz.prog) (w:=w) 28 (some ⟨g,0,none⟩) n cap (by rw[Xge];exact Tryz.underlying28) .i64 j (by omega) (by omega),Xge,Xsu]
 simp only[Result.andThen,Int.toNat_natCast,Xlk]
theorem Xys (g n cap j:Nat) (hj:j<=n):∃ad,(∀w,(Instr.slice 72 (.slice (some ⟨g,0,none⟩) n cap) (some (.int .i64 (j:Int))) none none).run Tryz.prog w= .ok (.slice (some ad) (n-j) (cap-j)) w)/\(j<n->n<=cap->ad=⟨g,j,none⟩):=by
 obtain ⟨ad,b,c⟩:=Xgx g j n cap
 refine ⟨ad,fun w=> ?_,c⟩
 rw[run_slice_l (P:=Tryz.prog) (w:=w) 72 (some ⟨g,0,none⟩) n cap (by rw[Xgd];exact Tryz.underlying72) .i64 j (by omega) (by omega),Xgd,Xst]
 simp only[Result.andThen,Int.toNat_natCast,b]
theorem Xyt (g n cap j:Nat) (hj:j<=n):∃ad,(∀w,(Instr.slice 28 (.slice (some ⟨g,0,none⟩) n cap) (some (.int .i64 (j:Int))) none none).run Tryz.prog w= .ok (.slice (some ad) (n-j) (cap-j)) w)/\(j<n->n<=cap->ad=⟨g,j,none⟩):=by
 obtain ⟨ad,b,c⟩:=Xgx g j n cap
 refine ⟨ad,fun w=> ?_,c⟩
 rw[run_slice_l (P:=Tryz.prog) (w:=w) 28 (some ⟨g,0,none⟩) n cap (by rw[Xge];exact Tryz.underlying28) .i64 j (by omega) (by omega),Xge,Xsu]
 simp only[Result.andThen,Int.toNat_natCast,b]


def Xqe (L:Nat->List VN) (m:Nat):Bool:=(List.range m).all fun i=>okB (L i)
theorem Ua {L:Nat->List VN} {m:Nat} (h:Xqe L m=true):∀i,i<m->okB (L i)=true:=fun i hi=>by
 unfold Xqe at h;rw[List.all_eq_true] at h;exact h i (List.mem_range.2 hi)
theorem X3v {L:Nat->List VN} {m:Nat} (h:∀i,i<m->okB (L i)=true):Xqe L m=true:=by
 unfold Xqe;rw[List.all_eq_true];exact fun i hi=>h i (List.mem_range.1 hi)
theorem Xc1 {L:Nat->List VN} {m:Nat} (hok:∀i,i<m->okB (L i)=true):∀i,i<m->0<(L i).length/\∀j,j<(L i).length->X1a (Xb (L i) j):=by
 intro i b
 obtain ⟨d,_,_,_⟩:=Xm (hok i b)
 refine ⟨by omega,fun j hj=> ?_⟩
 have c:=K7 (hok i b) j hj
 exact ⟨by omega,by omega,fun q hq=>by have:=Zw c.1 hq;omega⟩


theorem J8:(Tryz.prog.info? 25).map (fun i=>(i.zero,i.size,i.bytes))=some (some (.slice none 0 0),1,24):=by kernel_rfl
def Xe (vs:List VN):List Int:=(Xb vs (vs.length-1)).kids
def PL (vs:List VN) (i:Nat):List VN:=Ys vs (Xj (Xe vs) i).toNat
def Zl (vs:List VN):Nat:=if okB vs=true then (Xe vs).length else 0
theorem Zh {vs:List VN} (hok:okB vs=true) {k:Nat} (hk:k<(Xe vs).length):∃q:Nat,Xj (Xe vs) k=(q:Int)/\q+1<vs.length:=by
 obtain ⟨c,b,_,_⟩:=Xm hok
 have:=Zw (b (vs.length-1) (by omega)).2 hk
 refine ⟨(Xj (Xe vs) k).toNat, ?_, ?_⟩
 ·unfold Xe;omega
 ·unfold Xe;omega
theorem Ks {vs:List VN} (hf:∀i,i<vs.length->Fits (Xb vs i)):Zl vs<=80/\∀i,i<Zl vs->Few (PL vs i)/\∀j,j<(PL vs i).length->Fits (Xb (PL vs i) j):=by
 unfold Zl
 by_cases hok:okB vs=true
 ·rw[if_pos hok]
  obtain ⟨g,_,_,c⟩:=Xm hok
  refine ⟨by have:=c (vs.length-1) (by omega);unfold Xe;omega,fun i hi=> ?_⟩
  obtain ⟨q,d,f⟩:=Zh hok hi
  have e:PL vs i=Ys vs q:=by unfold PL;rw[d];simp
  rw[e]
  have b:=Xvm hok hf (m:=q) (by omega)
  exact ⟨⟨(G0 hok (Nat.lt_succ_self q) (by omega)).2,fun j hj=>(b j hj).2⟩,fun j hj=>(b j hj).1⟩
 ·rw[if_neg hok]
  exact ⟨by omega,fun i hi=>absurd hi (by omega)⟩
theorem Kn (B:Nat) (v:Value) (vs:List VN) (w:World) (h:NodesAt B w v vs) (hB:B<=w.heap.size) (hok:okB vs=true):
  Calls Tryz.prog 72 #[v] w fun e w'=>∃r rs KV IV lo,e= .returned r/\Rows2 w.heap.size w' r (Xe vs).length (PL vs) rs KV IV lo/\Below w.heap.size w w':=by
 have HV:=Xa h
 obtain ⟨bj,av,bl,rfl,d⟩:=h
 obtain ⟨p1,_,p3,_⟩:=Xm hok
 obtain ⟨b0,o0,rfl,bm,hc⟩:=d (by omega)
 obtain ⟨ka,ki,g⟩:=hc (vs.length-1) (by omega)
 have bn:=Xa g
 have T:=Xa p3
 have z:=Xa (K7 hok)
 have V:=Xa (fun k hk=>Zh (k:=k) hok hk)
 obtain ⟨i0,X,Y,Z,ba⟩:=info_parts J8
 obtain ⟨_,bo,aI,cI,eI,C⟩:=g.inn.kids
 subst eI
 have t:Below w.heap.size w (w.alloc (.cells #[] 25)):=(Below.refl _ _).alloc (Nat.le_refl _) _
 have c4:=(Xc (o:=o0+(vs.length-1) *5+4) t (show b0<w.heap.size by omega)).trans g.c4
 have bb:=Xa C
 have p0:((vs.length:Int)-1).toNat=vs.length-1:=by omega
 have bc:=Xa (Rows2.start (base:=w.heap.size) (World.ownsRow_lit w #[] 0 (Nat.le_refl _) (by simp[maxLen]) rfl) (by simp) (PL vs))
 have bd:=Xa t
 have D:(Xe vs).length=(Xb vs (vs.length-1)).kids.length:=rfl
 have F:=Xa D
 have G:(Xb vs (vs.length-1)).kids.length<=80:=(z.out (vs.length-1) (by omega)).2.1
 obtain ⟨M,hM⟩:∃M,(Xb vs (vs.length-1)).kids.length=M:=⟨_,rfl⟩
 have R:=Xa hM
 rw[hM] at c4 G
 clear d hc g C p3 t D hM
 go_enter Tryz.func72,Tryz.ntmps72
 go_wp2_with fail
 go_loopw [3,5] (fun o i wr=>∃(k:Nat) (rs:Nat->Value) (KV IV:Nat->Nat->Value) (lo:Nat->Nat),k<=M/\i= .int .i64 k/\Rows2 w.heap.size wr o k (PL vs) rs KV IV lo/\Below w.heap.size w wr) (fun _ i _=>M-(intOf i).toNat)
 case atStart=>exact ⟨0,_,_,_,_,Nat.zero_le _,rfl,bc.out,bd.out⟩
 case round=>
  obtain ⟨k,rs,KV,IV,lo,hk,rfl,b,f⟩:=hrel
  have HR:=Xa b
  have zs:=f.size
  obtain ⟨ao,co,eo⟩:=Xg b.row
  subst eo
  clear b
  by_cases hlt:k<M
  ·obtain ⟨q,hq,bp⟩:=V.out k (by rw[F.out,R.out];exact hlt)
   obtain ⟨bk,ok,rfl,bq,J⟩:=bb.out (by rw[R.out];omega)
   have br:wr.cell? ⟨bk,ok+k,none⟩=some (.int .i64 (q:Int)):=by
    have:=J k (by rw[R.out];exact hlt)
    rw[<-hq]
    exact (Xc f (by omega)).trans this
   obtain ⟨⟨S,h0⟩,y⟩:=T.out q (by omega)
   have be:=Xa y
   have bf:Hid (run vs (-(S:Int)) S (q+1-S)=PL vs k):=by rw[Hid];unfold PL;rw[hq,Int.toNat_natCast,Ys,y];simp[trF]
   clear y hq J
   go_wp2_with fail
   refine (Xh9 B _ vs q S h0 wr (HV.out.below (f.mono hB)) (by omega) p1.2 z.out (by omega) be.out).mono ?_
   rintro e w3 ⟨r,K,I,rfl,j,l⟩
   rw[bf.out] at j
   have bg:=Xa j
   obtain ⟨ar,cr,er⟩:=Xg j.row
   obtain ⟨Lk,L⟩:∃Lk,(PL vs k).length=Lk:=⟨_,rfl⟩
   rw[L] at er
   subst er
   have P:=Xa l
   have z3:=l.size
   have p:=Xa (HR.out.below l).row
   clear j l L
   go_wp2_with (at_builtin;refine wpList_append_own_at _ rfl _ _ 28 rfl w.heap.size 25 i0 (.slice none 0 0) 1 24 Tryz.underlying28 X Y Z ba rfl (by decide) _ _ _ rfl (p.out.alloc _) ⟨w3.heap.size,0,none⟩ 1 1 [.slice ar Lk cr] rfl rfl ?c1 ?c2 ?c3 ?c4 ?c5 ?_)
   case c1=>exact cell_one_new _ _ _
   case c2=>intro u hu;simp at hu;subst hu;rfl
   case c3=>unfold maxLen;omega
   case c4=>omega
   case c5=>simp;omega
   intro v' w5 s c _ _
   have bh:=Xa (HR.out.snoc P.out bg.out s c)
   have bi:Hid (Below w.heap.size w w5):=((f.trans (P.out.mono zs)).alloc (by omega) _).grown c (by simp;omega) (fun x hx=>(p.out.lt x hx).1)
   clear s c
   go_wp2_with fail
   go_roundw
   case rel=>exact ⟨k+1,_,_,_,_,by omega,by go_num,bh.out,bi.out⟩
   case measure=>simp[intOf];omega
  ·obtain rfl:k=M:=by omega
   go_wp2_with fail
   go_ret
   exact ⟨_,_,_,_,_,rfl,by rw[F.out,R.out];exact HR.out,f⟩


theorem Xsj {keys:List ByteArray} (hr:Qs keys=true) {j:Nat} (hj:j<keys.length):Z4 (Xf keys j)=true/\(0<j->Y2 (Xf keys (j-1)) (Xf keys j)=true):=by
 have:=List.all_eq_true.1 hr j (List.mem_range.2 hj)
 unfold Qd at this
 simp only[Bool.and_eq_true,Bool.or_eq_true,decide_eq_true_eq] at this
 exact ⟨this.1,fun h=>this.2.resolve_left (by omega)⟩
theorem Xbs {s:ByteArray} (h:s.toList= []):s=ByteArray.empty:=by
 exact X4k (by rw[h,ByteArray.toList_eq];rfl)
theorem Xuc {kind n:Int} {s:ByteArray} {keys:List ByteArray} {m:Nat} (h:Xdl kind n s keys m=true):
  (kind=1/\n=0/\s=ByteArray.empty/\keys= []/\m=0)\/(kind=2/\(n=0\/n=1)/\s=ByteArray.empty/\keys= []/\m=0)\/(kind=3/\(-1000000000000000<=n/\n<=1000000000000000)/\s=ByteArray.empty/\keys= []/\m=0)\/
  (kind=4/\n=0/\s.size<=60/\keys= []/\m=0)\/(kind=5/\n=0/\s=ByteArray.empty/\keys= [])\/(kind=6/\n=0/\s=ByteArray.empty/\keys.length=m/\Qs keys=true):=by
 unfold Xdl Xz Yr Zi at h
 simp only[Bool.and_eq_true,List.length_replicate] at h
 obtain ⟨⟨⟨⟨d,b⟩,c⟩,f⟩,v⟩:=h
 by_cases k1:kind=1
 ·subst k1;simp at d b c f;exact .inl ⟨rfl,d,Xbs b,c,f⟩
 by_cases k2:kind=2
 ·subst k2;simp at b c f v;exact .inr (.inl ⟨rfl,v,Xbs b,c,f⟩)
 by_cases k3:kind=3
 ·subst k3;simp at b c f v;exact .inr (.inr (.inl ⟨rfl,v,Xbs b,c,f⟩))
 by_cases k4:kind=4
 ·subst k4;simp[Z4] at d c f v;exact .inr (.inr (.inr (.inl ⟨rfl,d,v.1,c,f⟩)))
 by_cases k5:kind=5
 ·subst k5;simp at d b c;exact .inr (.inr (.inr (.inr (.inl ⟨rfl,d,Xbs b,c⟩))))
 by_cases k6:kind=6
 ·subst k6;simp at d b v;exact .inr (.inr (.inr (.inr (.inr ⟨rfl,d,Xbs b,v.1,v.2⟩))))
 simp[k1,k2,k3,k4,k5,k6] at v


theorem X17 (f:Nat) (kids:List VT):∀k,k<=kids.length->(X8 (fun i=>Yb f (Yf kids i) 0) k).length=((kids.take k).map fun t=>(Yb f t 0).length).sum:=by
 intro k
 induction k with
 |zero=>intro _;rfl
 |succ k ih=>
  intro b
  rw[K4,ih (by omega),Xdc (by omega),List.map_append,List.sum_append]
  simp
theorem X3u (f:Nat) (kind n:Int) (s:ByteArray) (keys:List ByteArray) (kids:List VT):(Yb (f+1) (.mk kind n s keys kids) 0).length=(kids.map fun t=>(Yb f t 0).length).sum+1:=by
 rw[Qt,(X3f f kids _ (Nat.le_refl _)).1,List.length_append,X17 f kids _ (Nat.le_refl _),List.take_length]
 rfl




def Xs2:Nat->VT->Prop
 |0,_=>False
 |f+1, .mk kind n s keys kids=>(1<=kind/\kind<=6)/\(-9223372036854775808<=n/\n<=9223372036854775807)/\s.size<=100000/\keys.length<=100000/\(∀i,i<keys.length->(Xf keys i).size<=100000)/\kids.length<=100000/\∀j,j<kids.length->Xs2 f (Yf kids j)
theorem X2f (f sh:Nat) {l:List VT}:∀{m j:Nat},j<m->m<=l.length->Xj (ksT f sh l m) j=((sh+(Xx f sh l (j+1)).length:Nat):Int)-1:=by
 intro m
 induction m with
 |zero=>intro j h;omega
 |succ m ih=>
  intro j c d
  have b:=Xcr f sh l (k:=m) (by omega)
  rw[Qp f sh (by omega)]
  by_cases e:j<m
  ·have:=ih e (by omega)
   unfold Xj at this|-
   rw[List.getD_eq_getElem?_getD,List.getElem?_append_left (by omega),<-List.getD_eq_getElem?_getD]
   exact this
  ·obtain rfl:j=m:=by omega
   unfold Xj
   rw[List.getD_eq_getElem?_getD,List.getElem?_append_right (by omega),b,Nat.sub_self]
   rfl
theorem Xy3:∀{f:Nat} {t:VT},Xs2 f t->∀sh,sh+(Yb f t sh).length<=1000000->∀j,j<(Yb f t sh).length->Fits (Xb (Yb f t sh) j):=by
 intro f
 induction f with
 |zero=>intro t h;exact h.elim
 |succ f ih=>
  intro t h sh o
  obtain ⟨b,n,s,keys,kids⟩:=t
  obtain ⟨B,C,D,F,p,G,q⟩:=h
  rw[Qt] at o|-
  rw[List.length_append,List.length_cons,List.length_nil] at o|-
  have y:=Xk1 f sh kids Fits kids.length (Nat.le_refl _)
  have c:∀j,j<(Xx f sh kids kids.length).length->Fits (Xb (Xx f sh kids kids.length) j):=y.2 (fun i hi=>by
   refine ih (q i hi) _ ?_
   have d:=Xa8 f sh kids (i+1)
   rw[Zg f sh hi,List.length_append] at d
   omega)
  intro j J
  by_cases e:j<(Xx f sh kids kids.length).length
  ·rw[Z1 e];exact c j e
  ·obtain rfl:j=(Xx f sh kids kids.length).length:=by omega
   rw[Zy (Nat.le_refl _),Nat.sub_self]
   have z:=Xcr f sh kids (Nat.le_refl _)
   refine ⟨by show keys.length<=_;omega,fun i hi=>by have:=p i hi;show (Xf keys i).size<=_;omega,by show (ksT f sh kids kids.length).length<=_;omega,fun i hi=> ?_,by show s.size<=_;omega,by show _<=b;omega,by show b<=_;omega,by show _<=n;omega,by show n<=_;omega⟩
   have g:i<kids.length:=by have:i<(ksT f sh kids kids.length).length:=hi;omega
   have:=X2f f sh (l:=kids) g (Nat.le_refl _)
   have d:=Xa8 f sh kids (i+1)
   show-9223372036854775808<=Xj (ksT f sh kids kids.length) i/\Xj (ksT f sh kids kids.length) i<=9223372036854775807
   rw[this]
   omega


theorem X4i {F:VT->Nat}:∀{l:List VT},(∀j,j<l.length->1<=F (Yf l j))->l.length<=(l.map F).sum/\∀j,j<l.length->F (Yf l j)<=(l.map F).sum:=by
 intro l
 induction l with
 |nil=>intro _;exact ⟨by simp,fun j hj=>absurd hj (by simp)⟩
 |cons x l ih=>
  intro h
  have c:1<=F x:=h 0 (by simp)
  obtain ⟨d,b⟩:=ih (fun j hj=>h (j+1) (by simp;omega))
  rw[List.map_cons,List.sum_cons,List.length_cons]
  refine ⟨by omega,fun j hj=> ?_⟩
  cases j with
  |zero=>show F x<=_;omega
  |succ j=>
   have:F (Yf l j)<=(l.map F).sum:=b j (by simp at hj;omega)
   show F (Yf l j)<=_
   omega
theorem X02:∀{f:Nat} {t:VT},goodT f t->(Yb f t 0).length<=100000->Xs2 f t:=by
 intro f
 induction f with
 |zero=>intro t h;exact h.elim
 |succ f ih=>
  intro t h g
  obtain ⟨d,n,s,keys,kids⟩:=t
  rw[X3u] at g
  obtain ⟨q,o⟩:=X4i (F:=fun t=>(Yb f t 0).length) (l:=kids) (fun j hj=>Xhb (h.2 j hj).full 0)
  have c:kids.length<=100000:=by omega
  have p:ByteArray.empty.size=0:=rfl
  have b:∀j,j<kids.length->Xs2 f (Yf kids j):=fun j hj=>ih (h.2 j hj) (by have:=o j hj;omega)
  rcases Xuc h.1 with ⟨a1,a2,a3,a4,_⟩|⟨a1,a2,a3,a4,_⟩|⟨a1,a2,a3,a4,_⟩|⟨a1,a2,a3,a4,_⟩|⟨a1,a2,a3,a4⟩|⟨a1,a2,a3,a4,a5⟩
  ·exact ⟨by omega,by omega,by rw[a3];omega,by rw[a4];simp,fun i hi=>by rw[a4] at hi;simp at hi,c,b⟩
  ·exact ⟨by omega,by omega,by rw[a3];omega,by rw[a4];simp,fun i hi=>by rw[a4] at hi;simp at hi,c,b⟩
  ·exact ⟨by omega,by omega,by rw[a3];omega,by rw[a4];simp,fun i hi=>by rw[a4] at hi;simp at hi,c,b⟩
  ·exact ⟨by omega,by omega,by omega,by rw[a4];simp,fun i hi=>by rw[a4] at hi;simp at hi,c,b⟩
  ·exact ⟨by omega,by omega,by rw[a3];omega,by rw[a4];simp,fun i hi=>by rw[a4] at hi;simp at hi,c,b⟩
  ·refine ⟨by omega,by omega,by rw[a3];omega,by omega,fun i hi=> ?_,c,b⟩
   have:=(Xsj a5 hi).1
   unfold Z4 at this
   simp only[Bool.and_eq_true,decide_eq_true_eq] at this
   omega
theorem Xw8 {f:Nat} {t:VT} (h:goodT f t) (hl:(Yb f t 0).length<=100000):∀j,j<(Yb f t 0).length->Fits (Xb (Yb f t 0) j):=Xy3 (X02 h hl) 0 (by omega)


theorem Xui (s:ByteArray) (w:World):Calls Tryz.prog 207 #[.string s] w fun e w'=>e= .returned (.bool false)/\w'=w:=by
 have b:(s.toList==s.toList)=true:=by simp
 go_enter Tryz.func207,Tryz.ntmps207
 go_wp2_with fail
 go_ret
 exact ⟨by simp,rfl⟩
theorem Xxm (s:ByteArray) (w:World):Calls Tryz.prog 197 #[.string s] w fun e w'=>e= .returned (.bool false)/\w'=w:=by
 have b:(s.toList==s.toList)=true:=by simp
 go_enter Tryz.func197,Tryz.ntmps197
 go_wp2_with fail
 go_ret
 exact ⟨by simp,rfl⟩
theorem Xri (a b:ByteArray) (w:World):Calls Tryz.prog 196 #[.string a, .string b] w fun e w'=>e= .returned (.bool (Y2 a b))/\w'=w:=by
 go_enter Tryz.func196,Tryz.ntmps196
 go_wp2_with (go_at_call 207;refine (Xui _ _).mono ?_;rintro e w' ⟨rfl,rfl⟩)
 go_ret
 exact ⟨rfl,rfl⟩
theorem Xdw (B:Nat) (v:Value) (l:List ByteArray) (key:ByteArray) (w:World) (h:StrsAt B w v l) (hr:Xhw l) (hl:l.length<=1048576):
  Calls Tryz.prog 183 #[v, .string key] w fun e w'=>e= .returned (.tuple #[.int .i64 (Zz l key:Nat), .bool (Yz l key)])/\w'=w:=by
 obtain ⟨_,_,a,P,rfl,F⟩:=h
 have G:=Xa F
 have R:=Xa hr
 clear F hr
 go_enter Tryz.func183,Tryz.ntmps183
 go_wp2_with fail
 go_loop [7,8,9] (fun p q _=>∃i j:Nat,i<=j/\j<=l.length/\p= .int .i64 i/\q= .int .i64 j/\Hid (∀t,t<i->Y2 (Xf l t) key=true)/\Hid (j<l.length->Y2 (Xf l j) key=false)) (fun p q _=>(intOf q).toNat-(intOf p).toNat)
 case atStart=>exact ⟨0,l.length,Nat.zero_le _,Nat.le_refl _,rfl,rfl,fun t ht=>by omega,fun h=>absurd h (by omega)⟩
 case round=>
  obtain ⟨i,j,S,f,rfl,rfl,J,L⟩:=hrel
  by_cases hlt:i<j
  ·obtain ⟨b,o,rfl,s,c⟩:=G.out (by omega)
   obtain ⟨h,T⟩:∃h:Nat,h=(i+j)/2:=⟨_,rfl⟩
   have V:i<=h:=by omega
   have Y:h<j:=by omega
   have y:=c h (by omega)
   have Z:((i:Int)+(j:Int))/2=(h:Int):=by omega
   have z:h<l.length:=by omega
   clear c T
   go_wp2_with fail
   refine (Xri _ _ _).mono ?_
   rintro e w1 ⟨rfl,rfl⟩
   cases hle:Y2 (Xf l h) key
   ·have C:Hid (h<l.length->Y2 (Xf l h) key=false):=fun _=>hle
    go_wp2_with fail
    go_round
    case rel=>exact ⟨i,h,V,by omega,rfl,rfl,J,C⟩
    case measure=>simp[intOf];omega
   ·have D:Hid (∀t,t<h+1->Y2 (Xf l t) key=true):=fun t ht=>by
     by_cases e:t=h
     ·subst e;exact hle
     ·exact Xa6 (R.out t h (by omega) z) hle
    go_wp2_with fail
    go_round
    case rel=>exact ⟨h+1,j,by omega,f,by go_num,rfl,D,L⟩
    case measure=>simp[intOf];omega
  ·obtain rfl:i=j:=by omega
   have d:=Xa (Xc2 f J.out L.out)
   by_cases hil:i<l.length
   ·obtain ⟨b,o,rfl,s,c⟩:=G.out (by omega)
    have y:=c i hil
    by_cases he:(Xf l i).toList=key.toList
    ·have g:Hid (Yz l key=true):=by unfold Hid Yz;rw[d.out];simp[hil,he]
     have X:((Xf l i).toList==key.toList)=true:=by simp[he]
     clear c
     go_wp2_with fail
     go_ret2
     exact ⟨by rw[g.out,d.out];rfl,rfl⟩
    ·have g:Hid (Yz l key=false):=by unfold Hid Yz;rw[d.out];simp[hil,he]
     have X:((Xf l i).toList==key.toList)=false:=by simpa using he
     clear c
     go_wp2_with (go_at_call 197;refine (Xxm _ _).mono ?_;rintro e w' ⟨rfl,rfl⟩)
     go_ret2
     exact ⟨by rw[g.out,d.out];rfl,rfl⟩
   ·have g:Hid (Yz l key=false):=by unfold Hid Yz;rw[d.out];simp[hil]
    have M:¬((i:Int)<(l.length:Int)):=by omega
    go_wp2_with fail
    go_ret2
    exact ⟨by rw[g.out,d.out];rfl,rfl⟩


theorem Xpv {w w':World} {base e s n:Nat} {v:Value} {xs:List Value} (h:w.ownsRow base e s v n xs) (hb:∀x,v.ownBlock=some x->w'.heap[x]? =w.heap[x]?):w'.ownsRow base e s v n xs:=by
 refine ⟨h.1, ?_⟩
 rcases h.2 with hn|⟨g,cap,cur,rfl,hg,hgg,rest⟩
 ·exact .inl hn
 ·exact .inr ⟨g,cap,cur,rfl,hg,(hb g rfl).trans hgg,rest⟩


theorem Kt (n:Int) (w:World):Calls Tryz.prog 98 #[.int .i64 n] w fun e w'=>∃r KV IV,e= .returned r/\Nest w.heap.size w' r (Xr 3 n ByteArray.empty) KV IV/\Below w.heap.size w w':=by
 go_enter Tryz.func98,Tryz.ntmps98
 go_wp2_with fail
 go_ret
 exact ⟨_,_,_,rfl,Vt w 3 n _,(Below.refl _ _).alloc (Nat.le_refl _) _⟩
theorem Xoa (B:Nat) (v:Value) (vs:List VN) (w:World) (h:NodesAt B w v vs) (hB:B<=w.heap.size) (hok:okB vs=true):
  Calls Tryz.prog 78 #[v] w fun e w'=>∃r base KV IV,e= .returned (.tuple #[r, .int .i64 (Xij (Zm (Xd vs)))])/\w.heap.size<=base/\Nest base w' r (Xmi (Zm (Xd vs))) KV IV/\Below w.heap.size w w':=by
 have g:=Xa (Ju hok)
 obtain ⟨J,av,ba,rfl,q⟩:=h
 obtain ⟨T,_,_,_⟩:=Xm hok
 obtain ⟨b0,o0,rfl,bb,V⟩:=q (by omega)
 obtain ⟨ka,ki,b⟩:=V (vs.length-1) (by omega)
 obtain ⟨x,S⟩:∃x,Xd vs=x:=⟨_,rfl⟩
 have L:Xb vs (vs.length-1)=x:=S
 rw[L] at b
 rw[S] at g|-
 have HK:Hid (Zm x=Zm x):=rfl
 obtain ⟨M,X⟩:∃M,vs.length=M:=⟨_,rfl⟩
 rw[X] at b T J|-
 obtain ⟨_,_,D,F,eK,_⟩:=b.inn.keys
 obtain ⟨_,_,z,C,eI,_⟩:=b.inn.kids
 subst eK eI
 have c0:=b.c0
 have c1:=b.c1
 have c2:=b.c2
 have c3:=b.c3
 have c4:=b.c4
 have p0:((M:Int)-1).toNat=M-1:=by omega
 obtain ⟨bc,bd⟩:=T
 clear q V b S L X hok HK
 obtain ⟨W,G⟩:∃W,w.alloc (.cells #[.int .i64 x.kind, .int .i64 x.n, .string x.s, .slice D x.keys.length F, .slice z x.kids.length C] 75)=W:=⟨_,rfl⟩
 have Y:W.cell? ⟨w.heap.size,0,none⟩=some (.int .i64 x.kind):=by rw[<-G];simp
 have Z:W.cell? ⟨w.heap.size,1,none⟩=some (.int .i64 x.n):=by rw[<-G];simp
 have r2:W.cell? ⟨w.heap.size,2,none⟩=some (.string x.s):=by rw[<-G];simp
 have r4:W.cell? ⟨w.heap.size,4,none⟩=some (.slice z x.kids.length C):=by rw[<-G];simp
 have rz:w.heap.size<W.heap.size:=by rw[<-G];simp
 have HW:=Xa G
 have be:Hid (Below w.heap.size w W):=by rw[Hid,<-G];exact (Below.refl _ _).alloc (Nat.le_refl _) _
 clear G
 have c:=Xa (And.intro Y (And.intro Z (And.intro r2 r4)))
 clear Y Z r2 r4
 have o:Hid (w.alloc (.cells #[.int .i64 x.kind, .int .i64 x.n, .string x.s, .slice D x.keys.length F, .slice z x.kids.length C] 75)=W):=HW.out
 rcases g.out with k|k|⟨k,n1,n2⟩|⟨k,n1⟩|⟨k,n1⟩|⟨k,n1⟩
 ·have p:Hid (Zm x=some (0)):=by unfold Hid Zm;simp[k]
  rw[p.out]
  rw[k] at c0 o c
  clear k g
  have d:w.heap.size<=(w.alloc (.cells #[.int .i64 1, .int .i64 x.n, .string x.s, .slice D x.keys.length F, .slice z x.kids.length C] 75)).heap.size:=by simp
  go_enter Tryz.func78,Tryz.ntmps78
  go_wp2_with fail
  refine (Kt (0) _).mono ?_
  rintro e t ⟨r,KV,IV,rfl,b,j⟩
  have y:=Xa b
  obtain ⟨P,R,l⟩:=Xg b.row
  simp only[Xr,List.length_cons,List.length_nil] at l
  subst l
  have f:Hid (Below w.heap.size w t):=((Below.refl _ _).alloc (Nat.le_refl _) _).trans (j.mono (by simp))
  clear b j
  go_wp2_with fail
  go_ret2
  exact ⟨_,_,KV,IV,rfl,d,y.out,f.out⟩
 ·have p:Hid (Zm x=none):=by unfold Hid Zm;simp[k]
  rw[p.out]
  rw[k] at c0 o c
  clear k g
  go_enter Tryz.func78,Tryz.ntmps78
  go_wp2_with fail
  go_ret2
  exact ⟨_,w.heap.size,fun _=>undef,fun _=>undef,rfl,Nat.le_refl _,Nest.nil _ _ _ _,(Below.refl _ _).alloc (Nat.le_refl _) _⟩
 ·by_cases hs:x.n< -x.n
  ·have p:Hid (Zm x=some (-x.n)):=by unfold Hid Zm;simp[k];omega
   rw[p.out]
   rw[k] at c0 o c
   clear k g
   have d:w.heap.size<=(w.alloc (.cells #[.int .i64 3, .int .i64 x.n, .string x.s, .slice D x.keys.length F, .slice z x.kids.length C] 75)).heap.size:=by simp
   go_enter Tryz.func78,Tryz.ntmps78
   go_wp2_with fail
   refine (Kt (-x.n) _).mono ?_
   rintro e t ⟨r,KV,IV,rfl,b,j⟩
   have y:=Xa b
   obtain ⟨P,R,l⟩:=Xg b.row
   simp only[Xr,List.length_cons,List.length_nil] at l
   subst l
   have f:Hid (Below w.heap.size w t):=((Below.refl _ _).alloc (Nat.le_refl _) _).trans (j.mono (by simp))
   clear b j
   go_wp2_with fail
   go_ret2
   exact ⟨_,_,KV,IV,rfl,d,y.out,f.out⟩
  ·have p:Hid (Zm x=some (x.n)):=by unfold Hid Zm;simp[k];omega
   rw[p.out]
   rw[k] at c0 o c
   clear k g
   have d:w.heap.size<=(w.alloc (.cells #[.int .i64 3, .int .i64 x.n, .string x.s, .slice D x.keys.length F, .slice z x.kids.length C] 75)).heap.size:=by simp
   go_enter Tryz.func78,Tryz.ntmps78
   go_wp2_with fail
   refine (Kt (x.n) _).mono ?_
   rintro e t ⟨r,KV,IV,rfl,b,j⟩
   have y:=Xa b
   obtain ⟨P,R,l⟩:=Xg b.row
   simp only[Xr,List.length_cons,List.length_nil] at l
   subst l
   have f:Hid (Below w.heap.size w t):=((Below.refl _ _).alloc (Nat.le_refl _) _).trans (j.mono (by simp))
   clear b j
   go_wp2_with fail
   go_ret2
   exact ⟨_,_,KV,IV,rfl,d,y.out,f.out⟩
 ·have p:Hid (Zm x=some ((x.s.size:Int))):=by unfold Hid Zm;simp[k]
  rw[p.out]
  rw[k] at c0 o c
  clear k g
  have d:w.heap.size<=(w.alloc (.cells #[.int .i64 4, .int .i64 x.n, .string x.s, .slice D x.keys.length F, .slice z x.kids.length C] 75)).heap.size:=by simp
  go_enter Tryz.func78,Tryz.ntmps78
  go_wp2_with fail
  refine (Kt ((x.s.size:Int)) _).mono ?_
  rintro e t ⟨r,KV,IV,rfl,b,j⟩
  have y:=Xa b
  obtain ⟨P,R,l⟩:=Xg b.row
  simp only[Xr,List.length_cons,List.length_nil] at l
  subst l
  have f:Hid (Below w.heap.size w t):=((Below.refl _ _).alloc (Nat.le_refl _) _).trans (j.mono (by simp))
  clear b j
  go_wp2_with fail
  go_ret2
  exact ⟨_,_,KV,IV,rfl,d,y.out,f.out⟩
 ·have p:Hid (Zm x=some ((x.kids.length:Int))):=by unfold Hid Zm;simp[k]
  rw[p.out]
  rw[k] at c0 o c
  clear k g
  have d:w.heap.size<=(w.alloc (.cells #[.int .i64 5, .int .i64 x.n, .string x.s, .slice D x.keys.length F, .slice z x.kids.length C] 75)).heap.size:=by simp
  go_enter Tryz.func78,Tryz.ntmps78
  go_wp2_with fail
  refine (Kt ((x.kids.length:Int)) _).mono ?_
  rintro e t ⟨r,KV,IV,rfl,b,j⟩
  have y:=Xa b
  obtain ⟨P,R,l⟩:=Xg b.row
  simp only[Xr,List.length_cons,List.length_nil] at l
  subst l
  have f:Hid (Below w.heap.size w t):=((Below.refl _ _).alloc (Nat.le_refl _) _).trans (j.mono (by simp))
  clear b j
  go_wp2_with fail
  go_ret2
  exact ⟨_,_,KV,IV,rfl,d,y.out,f.out⟩
 ·have p:Hid (Zm x=some ((x.kids.length:Int))):=by unfold Hid Zm;simp[k]
  rw[p.out]
  rw[k] at c0 o c
  clear k g
  have d:w.heap.size<=(w.alloc (.cells #[.int .i64 6, .int .i64 x.n, .string x.s, .slice D x.keys.length F, .slice z x.kids.length C] 75)).heap.size:=by simp
  go_enter Tryz.func78,Tryz.ntmps78
  go_wp2_with fail
  refine (Kt ((x.kids.length:Int)) _).mono ?_
  rintro e t ⟨r,KV,IV,rfl,b,j⟩
  have y:=Xa b
  obtain ⟨P,R,l⟩:=Xg b.row
  simp only[Xr,List.length_cons,List.length_nil] at l
  subst l
  have f:Hid (Below w.heap.size w t):=((Below.refl _ _).alloc (Nat.le_refl _) _).trans (j.mono (by simp))
  clear b j
  go_wp2_with fail
  go_ret2
  exact ⟨_,_,KV,IV,rfl,d,y.out,f.out⟩


theorem Nest.low {base base':Nat} {w:World} {v:Value} {vs:List VN} {KV IV:Nat->Value} (h:Nest base w v vs KV IV) (hb:base'<=base):Nest base' w v vs KV IV:=
 ⟨Qj h.row hb,fun i hi=>Qj (h.rk i hi) hb,fun i hi=>Qj (h.ri i hi) hb,h.dkk,h.dii⟩


theorem Xn3 (l:List ByteArray):∀u∈l.map Value.string,u.oneCell'=true:=by
 intro u b
 obtain ⟨x,_,rfl⟩:=List.mem_map.1 b
 rfl
def X0g (base:Nat) (w w':World) (cs:Nat->Value) (e:Ending):Option (List ByteArray×List Nat)->Prop
 |none=>e= .returned (.tuple #[.slice none 0 0, .slice none 0 0, .bool false])
 |some (ns,ps)=>∃nv lv,e= .returned (.tuple #[nv,lv, .bool true])/\w'.ownsRow base 9 1 nv ns.length (ns.map .string)/\w'.ownsRow base 25 1 lv ps.length (ps.map cs)
theorem Xn4 (B : Nat) (kv u : Value) (ks : List ByteArray) (cs : Nat -> Value) (w : World) (h : StrsAt B w kv ks) (hu : Xss B w u ks.length cs) (hB : B <= w.heap.size) (hm : ks.length <= 1048576) :
  Calls Tryz.prog 102 #[kv,u] w fun e w'=>X0g w.heap.size w w' cs e (Zf ks ks.length)/\Below w.heap.size w w':=by
 obtain ⟨_,_,ak,ck,rfl,S⟩:=h
 obtain ⟨au,cu,rfl,cy,T⟩:=hu
 have cz:=Xa S
 have c6:=Xa T
 have b0:=Xa cy
 clear S T cy
 obtain ⟨i1,b1,V,b2,b3⟩:=info_parts Wh
 obtain ⟨i2,b4,X,b5,b6⟩:=info_parts Xpu
 obtain ⟨m,b7⟩:∃m,ks.length=m:=⟨_,rfl⟩
 have fx:=Xa b7
 rw[b7] at hm cz c6 b0|-
 clear b7
 have c7:Hid (((w.alloc (.cells #[] 9)).alloc (.cells #[] 25)).ownsRow w.heap.size 9 1 (.slice (some ⟨w.heap.size,0,none⟩) 0 0) 0 (([]:List ByteArray).map .string)):=(World.ownsRow_lit (base:=w.heap.size) w #[] 0 (Nat.le_refl _) (by simp[maxLen]) rfl).alloc _
 have c8:Hid (((w.alloc (.cells #[] 9)).alloc (.cells #[] 25)).ownsRow w.heap.size 25 1 (.slice (some ⟨w.heap.size+1,0,none⟩) 0 0) 0 (([]:List Nat).map cs)):=by
  have:=World.ownsRow_lit (base:=w.heap.size) (e:=25) (size:=1) (w.alloc (.cells #[] 9)) #[] 0 (by simp) (by simp[maxLen]) rfl
  simpa [Hid] using this
 have c9:Hid (∀l:List Nat,(∀i∈l,i<m)->∀u∈l.map cs,u.oneCell'=true):=by
  intro l hl u hu
  obtain ⟨i,s,rfl⟩:=List.mem_map.1 hu
  obtain ⟨a,n,c,e⟩:=b0.out i (hl i s)
  rw[e];rfl
 go_enter Tryz.func102,Tryz.ntmps102
 go_wp2_with fail
 go_loopw [7,8,9] (fun nv lv i wr=>∃(k F P cn cl:Nat) (d:List ByteArray) (Y:List Nat),k<=m/\i= .int .i64 k/\nv= .slice (some ⟨F,0,none⟩) k cn/\lv= .slice (some ⟨P,0,none⟩) k cl/\k<=cn/\k<=cl/\F<wr.heap.size/\P<wr.heap.size/\Zf ks k=some (d,Y)/\wr.ownsRow w.heap.size 9 1 (.slice (some ⟨F,0,none⟩) k cn) k (d.map .string)/\wr.ownsRow w.heap.size 25 1 (.slice (some ⟨P,0,none⟩) k cl) k (Y.map cs)/\Below w.heap.size w wr) (fun _ _ i _=>m-(intOf i).toNat)
 case atStart=>exact ⟨0,w.heap.size,w.heap.size+1,0,0,[],[],Nat.zero_le _,rfl,rfl,rfl,Nat.le_refl _,Nat.le_refl _,by simp;omega,by simp,rfl,c7.out,c8.out,((Below.refl _ _).alloc (Nat.le_refl _) _).alloc (by simp) _⟩
 case round =>
  obtain ⟨k,F,P,cn,cl,d,Y,hk,rfl,rfl,rfl,ff,fg,fy,fz,bf,da,db,Z⟩:=hrel
  have b8:=Xa bf
  have HN:=Xa da
  have HL:=Xa db
  have b:=Xa (Gl bf)
  have dc:=Xa (Gm bf)
  have zs:=Z.size
  clear c7 c8 bf da db
  obtain ⟨W0,fh⟩:∃W0,W0=wr:=⟨_,rfl⟩
  subst fh
  by_cases hlt:k<m
  ·obtain ⟨bk,ok,rfl,f0,S⟩:=cz.out (by omega)
   have b9:=(Xc (o:=ok+k) Z (show bk<w.heap.size by omega)).trans (S k hlt)
   obtain ⟨key,ba⟩:∃key,Xf ks k=key:=⟨_,rfl⟩
   have M:=Xa ba
   rw[ba] at b9
   clear S ba
   go_wp2_with fail
   go_loopw [10] (fun a wq=>∃(j:Nat),j<=k/\a= .int .i64 j/\Hid (∀t,t<j->Y2 (Xf d t) key=true)/\Below W0.heap.size W0 wq) (fun a _=>k-(intOf a).toNat)
   case atStart=>exact ⟨0,Nat.zero_le _,rfl,fun t ht=>by omega,Below.refl _ _⟩
   case round =>
    obtain ⟨j,bb,rfl,bg,G⟩:=hrel
    have f1:=G.size
    have bc:=(Xc G (by omega)).trans b9
    by_cases hins:(j<k/\Y2 (Xf d j) key=false/\¬(Xf d j).toList=key.toList)\/¬j<k
    case pos=>
     rcases hins with ⟨hj,hle,he⟩|hj
     all_goals
      first
      |have bp:Op.bytesLess (Xf d j).toList key.toList=false:=hle
       have bd:wr.cell? ⟨F,j,none⟩=some (.string (Xf d j)):=by
        rw[Xc G (by omega),HN.out.cellAt j (by omega)]
        exact Xfo (by rw[b.out.1];exact hj)
       have R:Hid (Zz d key=j):=Xc2 (by rw[b.out.1];exact bb) bg.out (fun _=>hle)
       have cg:=Xa (Xkg R.out)
       clear hle
       go_wp2_with fail
       go_quiet (fail)
       have f:=below_drewN G nq
       have bh:(wr.drewN nq).cell? ⟨F,j,none⟩=some (.string (Xf d j)):=(Xc (below_drewN (Below.refl wr.heap.size wr) nq) (by omega)).trans bd
       have bi:(wr.drewN nq).cell? ⟨bk,ok+k,none⟩=some (.string key):=(Xc (below_drewN (Below.refl wr.heap.size wr) nq) (by omega)).trans bc
       clear bd bc
       generalize wr.drewN nq=W1 at f bh bi|-
       clear nq
       have hz:((Xf d j).toList==key.toList)=false:=by simpa using he
       have bj:Hid (Yz d key=false):=by rw[Hid,cg.out];simp[he]
       clear he
       go_wp2_with fail
       go_quiet (fail)
       have z:=below_drewN f nq
       clear bh bi
       generalize W1.drewN nq=WQ at z|-
       clear nq f
      |have R:Hid (Zz d key=j):=Xc2 (by rw[b.out.1];exact bb) bg.out (fun h=>absurd h (by rw[b.out.1];omega))
       have bj:Hid (Yz d key=false):=by rw[Hid,Xkg R.out,b.out.1];simp[hj]
       go_wp2_with fail
       go_quiet (fail)
       have f:=below_drewN G nq
       generalize wr.drewN nq=W1 at f|-
       clear nq bc
       go_wp2_with fail
       go_quiet (fail)
       have z:=below_drewN f nq
       generalize W1.drewN nq=WQ at z|-
       clear nq f
      -- the key and the row are put in their place
      have zq:=z.size
      have zw:w.heap.size<=WQ.heap.size:=Nat.le_trans zs zq
      have bq:F<WQ.heap.size:=by omega
      have br:P<WQ.heap.size:=by omega
      have dd:=Xa (Ql HN.out z (fun y hy=>(HN.out.lt y hy).2))
      have de:=Xa (Ql HL.out z (fun y hy=>(HL.out.lt y hy).2))
      have df:=Xa (Z.trans (z.mono zs))
      obtain ⟨bu,ou,rfl,f2,T⟩:=c6.out (by omega)
      have dg:=Xa ((Xc df.out (show bu<w.heap.size by omega)).trans (T k hlt))
      obtain ⟨ax,nx,cx,ch⟩:=b0.out k hlt
      have fi:=Xa ch
      rw[ch] at dg
      have fj:Hid (WQ.cell? ⟨bk,ok+k,none⟩=some (.string key)):=(Xc z (by omega)).trans b9
      obtain ⟨dh,f3,di⟩:=Xys F k cn j bb
      obtain ⟨dj,f4,dk⟩:=Xyt P k cl j bb
      have f5:=X3o F k cn j (by omega)
      have f6:=X3p P k cl j (by omega)
      have fk:=Xa di
      have fl:=Xa dk
      have fm:Hid (Zf ks (k+1)=some (d.take j++ [Xf ks k]++d.drop j,Y.take j++ [k]++Y.drop j)):=Xi1 b8.out (by rw[M.out];exact R.out) (by rw[M.out];exact bj.out)
      have f7:k<=1048576:=by omega
      have dl:j+1+(k-j)=k+1:=by omega
      have dm:=Xa dl
      clear T ch di dk dl z
      have dp:Hid (0<j->∃ad',some (⟨F,0,none⟩:Addr)=some ad'/\∀i x,((d.take j).map Value.string)[i]? =some x->(WQ.alloc (.cells #[] 9)).cell? (ad'.add i)=some x):=by
       intro _
       refine ⟨_,rfl,fun i x s=> ?_⟩
       have be:i<j:=by have:=(List.getElem?_eq_some_iff.1 s).1;simp at this;omega
       have ea:(⟨F,0,none⟩:Addr).add i=⟨F,i,none⟩:=by unfold Addr.add;split<;>simp_all
       rw[ea,Xc ((Below.refl WQ.heap.size WQ).alloc (Nat.le_refl _) _) bq,dd.out.cellAt i (by omega)]
       rw[List.map_take,List.getElem?_take] at s
       simpa [be] using s
      have dq:Hid ((WQ.alloc (.cells #[] 9)).ownsRow WQ.heap.size 9 1 (.slice (some ⟨WQ.heap.size,0,none⟩) 0 0) 0 []):=by
       have:=World.ownsRow_lit (base:=WQ.heap.size) (e:=9) (size:=1) WQ #[] 0 (Nat.le_refl _) (by simp[maxLen]) rfl
       simpa [Hid] using this
      go_wp2_with (at_builtin;refine Yd rfl _ _ 72 rfl WQ.heap.size 9 i1 (.string ByteArray.empty) 1 16 Tryz.underlying72 b1 V b2 b3 rfl (by decide) _ 0 [] rfl dq.out (some ⟨F,0,none⟩) j cn ((d.take j).map Value.string) rfl ?c1 dp.out ?c2 ?c3 ?c4 ?c5 ?_)
      case c1=>simp[b.out.1];omega
      case c2=>exact Xn3 _
      case c3=>unfold maxLen;omega
      case c4=>omega
      case c5=>simp
      intro va wa C dr bs
      (try simp only[Nat.zero_add,List.nil_append] at C)
      have bl:Below WQ.heap.size WQ wa:=((Below.refl WQ.heap.size WQ).alloc (Nat.le_refl _) _).grown dr (by simp) (fun r hr=>by simp[Value.ownBlock] at hr;omega)
      have za:=bl.size
      have fn:wa.cell? ⟨bk,ok+k,none⟩=some (.string key):=(Xc bl (by omega)).trans fj.out
      have ds:=Xa bl
      have ci:=Xa C
      obtain ⟨xa,dt⟩:∃xa,va.ownBlock=some xa:=by
       rcases bs with e|e
       ·exact ⟨_,e⟩
       ·exact ⟨_,e⟩
      obtain ⟨ca,ea,_⟩:=Wr C dt
      subst ea
      clear C dr bs dt bl dq dp
      go_wp2_with (at_builtin;refine wpList_append_own_at _ rfl _ _ 72 rfl WQ.heap.size 9 i1 (.string ByteArray.empty) 1 16 Tryz.underlying72 b1 V b2 b3 rfl (by decide) _ _ _ rfl (ci.out.alloc _) ⟨wa.heap.size,0,none⟩ 1 1 [.string key] rfl rfl ?c1 ?c2 ?c3 ?c4 ?c5 ?_)
      case c1=>exact cell_one_new _ _ _
      case c2=>intro u hu;simp at hu;subst hu;rfl
      case c3=>unfold maxLen;omega
      case c4=>omega
      case c5=>simp;omega
      intro vb wb J du fo bt
      have cj:Below WQ.heap.size WQ wb:=(ds.out.alloc za _).grown du (by simp;omega) (fun r hr=>(ci.out.lt r hr).1)
      have zb:=cj.size
      have cm:=Xa cj
      have co:=Xa J
      obtain ⟨xb,dv⟩:∃xb,vb.ownBlock=some xb:=by
       rcases bt with e|e
       ·exact ⟨_,e⟩
       ·exact ⟨_,e⟩
      obtain ⟨cb,eb,_⟩:=Wr J dv
      subst eb
      clear J du fo bt dv cj ds ci fn
      have dw:Hid (0<k-j->∃ad',some dh=some ad'/\∀i x,((d.drop j).map Value.string)[i]? =some x->wb.cell? (ad'.add i)=some x):=by
       intro hp
       refine ⟨_,rfl,fun i x s=> ?_⟩
       have be:i<k-j:=by have:=(List.getElem?_eq_some_iff.1 s).1;simp[b.out.1] at this;omega
       rw[fk.out (by omega) ff]
       have ea:(⟨F,j,none⟩:Addr).add i=⟨F,j+i,none⟩:=by unfold Addr.add;split<;>simp_all
       rw[ea,Xc cm.out bq,dd.out.cellAt (j+i) (by omega)]
       rw[List.map_drop,List.getElem?_drop] at s
       exact s
      go_wp2_with (at_builtin;refine Yd rfl _ _ 72 rfl WQ.heap.size 9 i1 (.string ByteArray.empty) 1 16 Tryz.underlying72 b1 V b2 b3 rfl (by decide) _ (j+1) _ rfl co.out (some dh) (k-j) (cn-j) ((d.drop j).map Value.string) rfl ?c1 dw.out ?c2 ?c3 ?c4 ?c5 ?_)
      case c1=>simp[b.out.1]
      case c2=>exact Xn3 _
      case c3=>unfold maxLen;omega
      case c4=>omega
      case c5=>exact zb
      intro vc q g dx bv
      have cp:Below WQ.heap.size WQ q:=cm.out.grown dx zb (fun r hr=>(co.out.lt r hr).1)
      have zc:=cp.size
      have bm:=Xa cp
      rw[dm.out] at g
      have dy:Hid (q.ownsRow WQ.heap.size 9 1 vc (k+1) ((d.take j++ [key]++d.drop j).map Value.string)):=by rw[Hid];simpa [List.map_append,List.map_take,List.map_drop] using g
      obtain ⟨xc,dz⟩:∃xc,vc.ownBlock=some xc:=by
       rcases bv with e|e
       ·exact ⟨_,e⟩
       ·exact ⟨_,e⟩
      obtain ⟨cc,ec,fp⟩:=Wr g dz
      subst ec
      have fv:xc<q.heap.size:=(g.lt xc rfl).2
      clear g dx bv dz cp cm co dw
      have d0:Hid ((q.alloc (.cells #[] 25)).ownsRow q.heap.size 25 1 (.slice (some ⟨q.heap.size,0,none⟩) 0 0) 0 []):=by
       have:=World.ownsRow_lit (base:=q.heap.size) (e:=25) (size:=1) q #[] 0 (Nat.le_refl _) (by simp[maxLen]) rfl
       simpa [Hid] using this
      have d1:Hid (0<j->∃ad',some (⟨P,0,none⟩:Addr)=some ad'/\∀i x,((Y.take j).map cs)[i]? =some x->(q.alloc (.cells #[] 25)).cell? (ad'.add i)=some x):=by
       intro _
       refine ⟨_,rfl,fun i x s=> ?_⟩
       have be:i<j:=by have:=(List.getElem?_eq_some_iff.1 s).1;simp at this;omega
       have ea:(⟨P,0,none⟩:Addr).add i=⟨P,i,none⟩:=by unfold Addr.add;split<;>simp_all
       rw[ea,Xc (bm.out.alloc zc _) br,de.out.cellAt i (by omega)]
       rw[List.map_take,List.getElem?_take] at s
       simpa [be] using s
      go_wp2_with (at_builtin;refine Yd rfl _ _ 28 rfl q.heap.size 25 i2 (.slice none 0 0) 1 24 Tryz.underlying28 b4 X b5 b6 rfl (by decide) _ 0 [] rfl d0.out (some ⟨P,0,none⟩) j cl ((Y.take j).map cs) rfl ?c1 d1.out ?c2 ?c3 ?c4 ?c5 ?_)
      case c1=>simp[b.out.2];omega
      case c2=>exact c9.out _ (fun i s=>Nat.lt_of_lt_of_le (dc.out i (List.mem_of_mem_take s)) hk)
      case c3=>unfold maxLen;omega
      case c4=>omega
      case c5=>simp
      intro vd wd D d2 bw
      (try simp only[Nat.zero_add,List.nil_append] at D)
      have bn:Below q.heap.size q wd:=((Below.refl q.heap.size q).alloc (Nat.le_refl _) _).grown d2 (by simp) (fun r hr=>by simp[Value.ownBlock] at hr;omega)
      have zd:=bn.size
      have fq:wd.cell? ⟨bu,ou+k,none⟩=some (.slice ax nx cx):=(Xc bn (by omega)).trans ((Xc bm.out (by omega)).trans dg.out)
      have d3:=Xa bn
      have cq:=Xa D
      obtain ⟨xd,d4⟩:∃xd,vd.ownBlock=some xd:=by
       rcases bw with e|e
       ·exact ⟨_,e⟩
       ·exact ⟨_,e⟩
      obtain ⟨cd,ed,_⟩:=Wr D d4
      subst ed
      clear D d2 bw d4 bn d0 d1
      go_wp2_with (at_builtin;refine wpList_append_own_at _ rfl _ _ 28 rfl q.heap.size 25 i2 (.slice none 0 0) 1 24 Tryz.underlying28 b4 X b5 b6 rfl (by decide) _ _ _ rfl (cq.out.alloc _) ⟨wd.heap.size,0,none⟩ 1 1 [.slice ax nx cx] rfl rfl ?c1 ?c2 ?c3 ?c4 ?c5 ?_)
      case c1=>exact cell_one_new _ _ _
      case c2=>intro u hu;simp at hu;subst hu;rfl
      case c3=>unfold maxLen;omega
      case c4=>omega
      case c5=>simp;omega
      intro ve we L d5 fr bx
      have cr:Below q.heap.size q we:=(d3.out.alloc zd _).grown d5 (by simp;omega) (fun r hr=>(cq.out.lt r hr).1)
      have ze:=cr.size
      have ct:=Xa cr
      have cv:=Xa L
      obtain ⟨xe,d6⟩:∃xe,ve.ownBlock=some xe:=by
       rcases bx with e|e
       ·exact ⟨_,e⟩
       ·exact ⟨_,e⟩
      obtain ⟨ce,ee,_⟩:=Wr L d6
      subst ee
      clear L d5 fr bx d6 cr d3 cq fq
      have d7:Hid (0<k-j->∃ad',some dj=some ad'/\∀i x,((Y.drop j).map cs)[i]? =some x->we.cell? (ad'.add i)=some x):=by
       intro hp
       refine ⟨_,rfl,fun i x s=> ?_⟩
       have be:i<k-j:=by have:=(List.getElem?_eq_some_iff.1 s).1;simp[b.out.2] at this;omega
       rw[fl.out (by omega) fg]
       have ea:(⟨P,j,none⟩:Addr).add i=⟨P,j+i,none⟩:=by unfold Addr.add;split<;>simp_all
       rw[ea,Xc ct.out (by omega),Xc bm.out br,de.out.cellAt (j+i) (by omega)]
       rw[List.map_drop,List.getElem?_drop] at s
       exact s
      go_wp2_with (at_builtin;refine Yd rfl _ _ 28 rfl q.heap.size 25 i2 (.slice none 0 0) 1 24 Tryz.underlying28 b4 X b5 b6 rfl (by decide) _ (j+1) _ rfl cv.out (some dj) (k-j) (cl-j) ((Y.drop j).map cs) rfl ?c1 d7.out ?c2 ?c3 ?c4 ?c5 ?_)
      case c1=>simp[b.out.2]
      case c2=>exact c9.out _ (fun i s=>Nat.lt_of_lt_of_le (dc.out i (List.mem_of_mem_drop s)) hk)
      case c3=>unfold maxLen;omega
      case c4=>omega
      case c5=>exact ze
      intro vf wf p d8 bz
      have bo:Below q.heap.size q wf:=ct.out.grown d8 ze (fun r hr=>(cv.out.lt r hr).1)
      have zf:=bo.size
      rw[dm.out] at p
      have fs:Hid (wf.ownsRow q.heap.size 25 1 vf (k+1) ((Y.take j++ [k]++Y.drop j).map cs)):=by rw[Hid];simpa [List.map_append,List.map_take,List.map_drop,fi.out] using p
      obtain ⟨xf,d9⟩:∃xf,vf.ownBlock=some xf:=by
       rcases bz with e|e
       ·exact ⟨_,e⟩
       ·exact ⟨_,e⟩
      obtain ⟨cf,ef,ft⟩:=Wr p d9
      subst ef
      have fa:xf<wf.heap.size:=(p.lt xf rfl).2
      have fb:Hid (wf.ownsRow w.heap.size 9 1 (.slice (some ⟨xc,0,none⟩) (k+1) cc) (k+1) ((d.take j++ [key]++d.drop j).map Value.string)):=Qj (Ql dy.out bo (fun y hy=>(dy.out.lt y hy).2)) zw
      have fc:=Xa (Qj fs.out (show w.heap.size<=q.heap.size by omega))
      have fu:=Xa (df.out.trans ((bm.out.trans (bo.mono zc)).mono zw))
      have cw:=fm.out
      rw[M.out] at cw
      have fd:=Xa cw
      clear p d8 bz d9 bo ct cv d7 cw
      go_wp2_with fail
      go_roundw
      case rel=>exact ⟨k+1,xc,xf,cc,cf,_,_,by omega,by go_num,rfl,rfl,fp,ft,by omega,fa,fd.out,fb.out,fc.out,fu.out⟩
      case measure=>simp[intOf];omega
    case neg=>
     have hj:j<k:=Classical.byContradiction fun e=>hins (.inr e)
     have bd:wr.cell? ⟨F,j,none⟩=some (.string (Xf d j)):=by
      rw[Xc G (by omega),HN.out.cellAt j (by omega)]
      exact Xfo (by rw[b.out.1];exact hj)
     cases hle:Y2 (Xf d j) key
     ·have bp:Op.bytesLess (Xf d j).toList key.toList=false:=hle
      have R:Hid (Zz d key=j):=Xc2 (by rw[b.out.1];exact bb) bg.out (fun _=>hle)
      have cg:=Xa (Xkg R.out)
      clear hle
      go_wp2_with fail
      go_quiet (fail)
      have f:=below_drewN G nq
      have bh:(wr.drewN nq).cell? ⟨F,j,none⟩=some (.string (Xf d j)):=(Xc (below_drewN (Below.refl wr.heap.size wr) nq) (by omega)).trans bd
      have bi:(wr.drewN nq).cell? ⟨bk,ok+k,none⟩=some (.string key):=(Xc (below_drewN (Below.refl wr.heap.size wr) nq) (by omega)).trans bc
      clear bd bc
      generalize wr.drewN nq=W1 at f bh bi|-
      clear nq
      by_cases he:(Xf d j).toList=key.toList
      ·have hz:((Xf d j).toList==key.toList)=true:=by simp[he]
       have bj:Hid (Yz d key=true):=by rw[Hid,cg.out,b.out.1];simp[hj,he]
       clear he
       go_wp2_with fail
       go_quiet (fail)
       go_wp2_with fail
       go_ret3
       exact ⟨by rw[Xrr (Xpt b8.out (by rw[M.out];exact bj.out)) (show k+1<=m by omega)];rfl,Z.trans ((below_drewN f nq).mono zs)⟩
      ·exact absurd (.inl ⟨hj,by assumption,he⟩) hins
     ·have bp:Op.bytesLess (Xf d j).toList key.toList=true:=hle
      have fe:Hid (∀t,t<j+1->Y2 (Xf d t) key=true):=fun t ht=>by
       by_cases e:t=j
       ·subst e;exact hle
       ·exact bg.out t (by omega)
      clear hle
      go_wp2_with fail
      go_quiet (fail)
      go_wp2_with fail
      go_roundw
      case rel=>exact ⟨j+1,by omega,by go_num,fe.out,below_drewN G nq⟩
      case measure=>simp[intOf];omega
  ·obtain rfl:k=m:=by omega
   have fw:=Xa b.out
   go_wp2_with fail
   go_ret3
   exact ⟨by rw[b8.out];exact ⟨_,_,rfl,by rw[b.out.1];exact HN.out,by rw[b.out.2];exact HL.out⟩,Z⟩
end Go.Proofs.YtdjddneidbddpaaGreatDoor
