import Derived.Test.YtdjddneidbddpaaGreatDoorBack
import Derived.Test.YtdjddneidbddpaaGreatDoorByP
import Derived.Test.YtdjddneidbddpaaGreatDoorTo
import Derived.Test.YtdjddneidbddpaaGreatDoorSpc3
namespace Go.Proofs.YtdjddneidbddpaaGreatDoor
set_option linter.unusedSectionVars false
set_option maxRecDepth 100000
set_option maxHeartbeats 4000000
open Go.RowKit Go.Shelf
set_option linter.unusedSimpArgs false
set_option linter.unusedVariables false
def Ga (K:Nat->List Int) (N:Nat) (D:Int):Bool:=match tr K (N-1) with
 |some p=>decide (p.1=0)&&decide ((p.2:Int)<=D)
 |none=>false
def Kb (K:Nat->List Int) (N:Nat) (D:Int):Bool:=((List.range N).all fun i=>(tr K i).isSome)&&Ga K N D
structure Tab (s N:Nat) (W:World) (f g:Nat->Int) (rv:Bool):Prop where
 res:Boxed W s 4 (.bool rv)
 row1:W.rowIs (s+1) 2 N (fun j=> .int .i64 (f j))
 box1:Boxed W (s+1+1) 73 (.slice (some ⟨s+1,0,none⟩) N N)
 row2:W.rowIs (s+1+1+1) 2 N (fun j=> .int .i64 (g j))
 box2:Boxed W (s+1+1+1+1) 73 (.slice (some ⟨s+1+1+1,0,none⟩) N N)
theorem Xh0 {W W':World} {b t n:Nat} {f:Nat->Value} {row:Option Nat} (h:W.rowIs b t n f) (hg:W.grownBy W' row) (hr:∀r,row=some r->∃o:Obj,W.heap[r]? =some o/\o.isCells=false):W'.rowIs b t n f:=by
 refine h.of_block (hg.block b h.lt fun e=> ?_)
 obtain ⟨c,g,_,_⟩:=h
 obtain ⟨o,d,j⟩:=hr b e.symm
 rw[g] at d
 cases d
 cases j
theorem Gb {W W':World} {b t:Nat} {v:Value} {row:Option Nat} (h:Boxed W b t v) (hg:W.grownBy W' row) (hr:∀r,row=some r->∃o:Obj,W.heap[r]? =some o/\o.isCells=false):Boxed W' b t v:=by
 refine h.kept hg fun e=> ?_
 obtain ⟨o,c,d⟩:=hr b e.symm
 rw[show W.heap[b]? =_ from h] at c
 cases c
 cases d
theorem Tab.kept {s N:Nat} {W W':World} {f g:Nat->Int} {rv:Bool} {row:Option Nat} (h:Tab s N W f g rv) (hg:W.grownBy W' row) (hr:∀r,row=some r->∃o:Obj,W.heap[r]? =some o/\o.isCells=false):Tab s N W' f g rv:=
 ⟨Gb h.res hg hr,Xh0 h.row1 hg hr,Gb h.box1 hg hr,Xh0 h.row2 hg hr,Gb h.box2 hg hr⟩
theorem Tab.alloc {s N:Nat} {W:World} {f g:Nat->Int} {rv:Bool} (h:Tab s N W f g rv) (o:Obj):Tab s N (W.alloc o) f g rv:=
 ⟨h.res.alloc o,h.row1.alloc o,h.box1.alloc o,h.row2.alloc o,h.box2.alloc o⟩
theorem Z7 {b c o:Nat} (h:b≠c):b≠(⟨c,o,none⟩:Addr).block:=h
theorem Yu {W:World} {b t:Nat} {v:Value} (h:Boxed W b t v) {a:Addr} (hne:b≠a.block) (u:Value):Boxed (W.setCell a u) b t v:=
 (Below.heap_setCell W a u b hne).trans h
theorem Tab.setH {s N:Nat} {W:World} {f g:Nat->Int} {rv:Bool} (h:Tab s N W f g rv) (k:Nat) (x:Int):Tab s N (W.setCell ⟨s+1+1+1,k,none⟩ (.int .i64 x)) f (fun j=>if j=k then x else g j) rv:=
 ⟨Yu h.res (Z7 (by omega)) _,h.row1.setOther (Z7 (by omega)) _,Yu h.box1 (Z7 (by omega)) _,(h.row2.set k _).congr (fun j _=>by by_cases e:j=k<;>simp[e]),Yu h.box2 (Z7 (by omega)) _⟩
theorem Tab.setF {s N:Nat} {W:World} {f g:Nat->Int} {rv:Bool} (h:Tab s N W f g rv) (k:Nat) (x:Int):Tab s N (W.setCell ⟨s+1,k,none⟩ (.int .i64 x)) (fun j=>if j=k then x else f j) g rv:=
 ⟨Yu h.res (Z7 (by omega)) _,(h.row1.set k _).congr (fun j _=>by by_cases e:j=k<;>simp[e]),Yu h.box1 (Z7 (by omega)) _,h.row2.setOther (Z7 (by omega)) _,Yu h.box2 (Z7 (by omega)) _⟩
theorem Tab.setRes {s N:Nat} {W:World} {f g:Nat->Int} {rv:Bool} (h:Tab s N W f g rv) (x:Bool):Tab s N (W.setCell ⟨s,0,none⟩ (.bool x)) f g x:=
 ⟨h.res.set _,h.row1.setOther (Z7 (by omega)) _,Yu h.box1 (Z7 (by omega)) _,h.row2.setOther (Z7 (by omega)) _,Yu h.box2 (Z7 (by omega)) _⟩
theorem Tab.other {s N:Nat} {W:World} {f g:Nat->Int} {rv:Bool} (h:Tab s N W f g rv) {a:Addr} (ha:s+1+1+1+1<a.block) (u:Value):Tab s N (W.setCell a u) f g rv:=
 ⟨Yu h.res (by omega) _,h.row1.setOther (by omega) _,Yu h.box1 (by omega) _,h.row2.setOther (by omega) _,Yu h.box2 (by omega) _⟩
theorem Tab.congr {s N:Nat} {W:World} {f g f' g':Nat->Int} {rv:Bool} (h:Tab s N W f g rv) (e1:∀j,j<N->f j=f' j) (e2:∀j,j<N->g j=g' j):Tab s N W f' g' rv:=
 ⟨h.res,h.row1.congr (fun j hj=>by rw[e1 j hj]),h.box1,h.row2.congr (fun j hj=>by rw[e2 j hj]),h.box2⟩
theorem Tab.drew {s N:Nat} {W:World} {f g:Nat->Int} {rv:Bool} (h:Tab s N W f g rv):Tab s N W.drew f g rv:=⟨h.res,h.row1,h.box1,h.row2,h.box2⟩
def Marks (W:World) (lo:Nat) (Ds:List Nat):Prop:=Ds.Nodup/\∀D∈Ds,lo<=D/\W.heap[D]? =some (.deferred (some []))
theorem Marks.keeps {W W':World} {lo:Nat} {Ds:List Nat} (h:Marks W lo Ds) (k:KeepsOthers W W'):Marks W' lo Ds:=
 ⟨h.1,fun D hD=>⟨(h.2 D hD).1,k.same D _ (h.2 D hD).2 rfl⟩⟩
def mark (D:Nat):Deferred:={target:= .collected D,args:= #[]}
theorem Xbm {F:Fence} {n:Nat} {P:Program} {fn:Func} {tmps:Array Value} {R:Ending->World->Prop} (lo:Nat):∀(Ds:List Nat) (W:World),Marks W lo Ds->
  (∀W',Below lo W W'->(∀b,(∀D∈Ds,b≠D)->W'.heap[b]? =W.heap[b]?)->LeavesIn F n P fn tmps R [] .returning W')->LeavesInM F n P fn tmps R (Ds.map mark) .returning W:=by
 intro Ds
 induction Ds with
 |nil=>intro W _ h;exact h W (Below.refl _ _) (fun _ _=>rfl)
 |cons D Ds ih=>
  intro W f h
  have j:=f.2 D (by simp)
  have d:=List.nodup_cons.1 f.1
  refine ⟨by simp, .inl ⟨D,W.putObj D (.deferred none),rfl,run_takeDeferred j.2, ?_⟩⟩
  have l:Below lo W (W.putObj D (.deferred none)):=by
   refine ⟨rfl,rfl,rfl,by simp[World.putObj],fun k hk=>World.putObj_heap_other (by omega)⟩
  refine ih _ ⟨d.2,fun D' hD'=>⟨(f.2 D' (by simp[hD'])).1, ?_⟩⟩ ?_
  ·rw[World.putObj_heap_other (fun e=>d.1 (by rw[<-e];exact hD'))]
   exact (f.2 D' (by simp[hD'])).2
  ·intro W' g c
   refine h W' (l.trans g) fun b hbne=> ?_
   rw[c b (fun D' hD'=>hbne D' (by simp[hD'])),World.putObj_heap_other (hbne D (by simp))]
def Xao (K:Nat->List Int) (k j:Nat):Int:=if j<k then trF (tr K j) else 0
def Wf (K:Nat->List Int) (k j:Nat):Int:=if j<k then trD (tr K j) else 0
def Xap (K:Nat->List Int) (k:Nat) (pre:List (Nat×Int)):Option (Nat×Nat):=(pre.map Prod.snd).foldl (Xy (tr K)) (some (k,0))
def X31 (K:Nat->List Int) (N s sw k:Nat) (w:World) (Ds:List Nat) (pre:List (Nat×Int)) (W:World):Prop:=
 ∃b h:Nat,Xap K k pre=some (b,h)/\b<=k/\h<=k/\Tab s N W (Xao K k) (fun j=>if j=k then (h:Int)+1 else Wf K k j) false/\Boxed W sw 3 (.int .i64 k)/\Boxed W (sw+1) 2 (.int .i64 b)/\Below s w W/\Marks W s Ds
def X32 (K:Nat->List Int) (N s sw k:Nat) (w:World) (Ds:List Nat) (c:Code) (pre:List (Nat×Int)) (W:World):Prop:=
 c= .ret/\Xap K k pre=none/\Boxed W s 4 (.bool false)/\Below s w W/\Marks W s Ds
theorem Xzf {K:Nat->List Int} {k b h:Nat} {xs:List (Nat×Int)} (hx:xs.map Prod.snd=(K k).reverse) (hc:Xap K k xs=some (b,h)):tr K k=some (b,h+1):=by
 unfold Xap at hc
 rw[hx] at hc
 rw[Gy,hc]
 rfl
theorem Xvs {K:Nat->List Int} {k:Nat} {pre:List (Nat×Int)} (hx:∃q,(K k).reverse=pre.map Prod.snd++q) (hc:Xap K k pre=none):tr K k=none:=by
 obtain ⟨q,b⟩:=hx
 unfold Xap at hc
 rw[Gy,b,List.foldl_append,hc,Ug]
 rfl
theorem Xqm {K:Nat->List Int} {k N:Nat} {D:Int} (hk:k<N) (h:tr K k=none):Kb K N D=false:=by
 unfold Kb
 rw[show ((List.range N).all fun i=>(tr K i).isSome)=false from ?_,Bool.false_and]
 rw[List.all_eq_false]
 exact ⟨k,List.mem_range.2 hk,by simp[h]⟩
theorem Xtb {K:Nat->List Int} {N:Nat} {D:Int} (h:∀j,j<N->(tr K j).isSome=true):Kb K N D=Ga K N D:=by
 unfold Kb
 rw[show ((List.range N).all fun i=>(tr K i).isSome)=true from ?_,Bool.true_and]
 rw[List.all_eq_true]
 exact fun j hj=>h j (List.mem_range.1 hj)
theorem Xem {K:Nat->List Int} {k:Nat} {pre:List (Nat×Int)} {x:Nat×Int}:Xap K k (pre++ [x])=Xy (tr K) (Xap K k pre) x.2:=by
 unfold Xap
 rw[List.map_append,List.foldl_append]
 rfl
theorem Xvt {K:Nat->List Int} {k b h:Nat} (ht:tr K k=some (b,h)) (j:Nat):(if j=k then (b:Int) else Xao K k j)=Xao K (k+1) j:=by
 unfold Xao
 by_cases e:j=k
 ·subst e;rw[if_pos rfl,if_pos (by omega),ht];rfl
 ·rw[if_neg e];by_cases g:j<k
  ·rw[if_pos g,if_pos (by omega)]
  ·rw[if_neg g,if_neg (by omega)]
theorem Xvu {K:Nat->List Int} {k b h:Nat} (ht:tr K k=some (b,h+1)) (j:Nat):(if j=k then (h:Int)+1 else Wf K k j)=Wf K (k+1) j:=by
 unfold Wf
 by_cases e:j=k
 ·subst e;rw[if_pos rfl,if_pos (by omega),ht];simp[trD]
 ·rw[if_neg e];by_cases g:j<k
  ·rw[if_pos g,if_pos (by omega)]
  ·rw[if_neg g,if_neg (by omega)]
theorem Xh1 {W:World} {lo D B:Nat} {Ds:List Nat} (h:Marks W lo Ds) (hlt:∀E∈Ds,E<B) (hD:B<=D) (hlo:lo<=D) (hK:W.heap[D]? =some (.deferred (some []))):Marks W lo (D::Ds):=by
 refine ⟨List.nodup_cons.2 ⟨fun hm=>by have:=hlt D hm;omega,h.1⟩,fun E hE=> ?_⟩
 rcases List.mem_cons.1 hE with rfl|hE
 ·exact ⟨hlo,hK⟩
 ·exact h.2 E hE
theorem Xaq {W:World} {lo b t:Nat} {v:Value} {Ds:List Nat} (hb:Boxed W b t v) (h:Marks W lo Ds):∀D∈Ds,b≠D:=by
 intro D c e
 subst e
 have:=(h.2 b c).2
 rw[show W.heap[b]? =_ from hb] at this
 cases this
theorem Xkm {s B:Nat} {W W':World} {Ds:List Nat} {row:Option Nat} (h:Marks W s Ds) (hlt:∀D∈Ds,D<B) (hg:W.grownBy W' row) (hr:∀r,row=some r->B<=r/\∃o:Obj,W.heap[r]? =some o/\o.isCells=false):Marks W' s Ds:=
 ⟨h.1,fun D hD=>⟨(h.2 D hD).1,(hg.block D (Array.getElem?_eq_some_iff.1 (h.2 D hD).2).1 (fun e=>by have:=(hr D e.symm).1;have:=hlt D hD;omega)).trans (h.2 D hD).2⟩⟩
theorem Xzg {K:Nat->List Int} {N s sw k B:Nat} {w:World} {Ds:List Nat} (hlt:∀D∈Ds,D<B) (hs:s<=B):OwnFrom B (X31 K N s sw k w Ds):=by
 rintro l X Y f ⟨b,h,p,q,t,j,y,z,C,F⟩ d g
 have c:∀r,f=some r->∃o:Obj,X.heap[r]? =some o/\o.isCells=false:=fun r e=>(g r e).2
 refine ⟨b,h,p,q,t,j.kept d c,Gb y d c,Gb z d c,C.grown d ?_ (fun r e=>by have:=(g r e).1;omega),Xkm F hlt d g⟩
 have:=j.res.lt;omega
theorem Xzh {K:Nat->List Int} {N s sw k B:Nat} {w:World} {Ds:List Nat} (hlt:∀D∈Ds,D<B) (hs:s<=B) (c:Code):OwnFrom B (X32 K N s sw k w Ds c):=by
 rintro l X Y b ⟨p,q,j,t,y⟩ d f
 have g:∀r,b=some r->∃o:Obj,X.heap[r]? =some o/\o.isCells=false:=fun r e=>(f r e).2
 refine ⟨p,q,Gb j d g,t.grown d ?_ (fun r e=>by have:=(f r e).1;omega),Xkm y hlt d f⟩
 have:=j.lt;omega


open Go.RowKit Go.Shelf
attribute [local go_sem] Oper.semAt_some
def X42 (dp:Int) (K:Nat->List Int) (N kb s:Nat) (w:World) (a:Act) (W:World):Prop:=
 ∃(k:Nat) (Ds:List Nat) (u2 u3 u7 u8 u9 u10 u11 u12 u22 u23 u24 u25 u26 u27 u28 u29 u30 u31 u32 u33 u34 u35 u36 u37 u38 u39 u40 u41 u42 u43 u44 u45 u46 u47 u48 u49 u50 u51 u52 u53 u54 u55 u56 u57 u58 u59 u60 u61 u62 u63 u64 u65 u66 u67 u68 u69 u70 u71 u72 u73 u74 u75 u76 u77 u78 u79:Value),k<=N/\
  a={tmps:= #[.slice (some ⟨kb,0,none⟩) N N, .int .i64 dp,u2,u3, .pointer (some ⟨s,0,none⟩), .pointer (some ⟨s+1+1,0,none⟩), .pointer (some ⟨s+1+1+1+1,0,none⟩),u7,u8,u9,u10,u11,u12, .slice (some ⟨kb,0,none⟩) N N, .int .i64 N, .slice (some ⟨s+1,0,none⟩) N N, .slice (some ⟨kb,0,none⟩) N N, .int .i64 N, .slice (some ⟨s+1+1+1,0,none⟩) N N, .slice (some ⟨kb,0,none⟩) N N, .int .i64 N, .int .i64 k,u22,u23,u24,u25,u26,u27,u28,u29,u30,u31,u32,u33,u34,u35,u36,u37,u38,u39,u40,u41,u42,u43,u44,u45,u46,u47,u48,u49,u50,u51,u52,u53,u54,u55,u56,u57,u58,u59,u60,u61,u62,u63,u64,u65,u66,u67,u68,u69,u70,u71,u72,u73,u74,u75,u76,u77,u78,u79],defers:=Ds.map mark}/\
  (∀j,j<k->(tr K j).isSome=true)/\Tab s N W (Xao K k) (Wf K k) false/\Below s w W/\Marks W s Ds
def Xxa (a:Act):Nat:=(intOf (a.tmps.getD 21 undef)).toNat
theorem Xc0 (dp : Int) (B kb N : Nat) (K : Nat -> List Int) (KV : Nat -> Value) (w : World) (h1 : 1 <= N) (h2 : N <= 80) (hB : B <= w.heap.size) (hkb : kb < B)
  (hk:∀i,i<N->w.cell? ⟨kb,i,none⟩=some (KV i)/\IntsAt B w (KV i) (K i)):
  Calls Tryz.prog 40 #[.slice (some ⟨kb,0,none⟩) N N, .int .i64 dp] w fun e w'=>e= .returned (.bool (Kb K N dp))/\Below w.heap.size w w':=by
 refine (callsIn_wide (n:=6)).1 ?_
 have Z:=run_make_row' (P:=Tryz.prog) 73 2 (.int .i64 0) 8 Tryz.underlying73 Wg rfl .i64 .i64 N (by omega) (by omega)
 refine callsIn_of_wp_marks Tryz.func40 rfl trivial ?_ rfl
 simp only[Tryz.ntmps40,List.size_toArray,List.length_cons,List.length_nil,Nat.reduceAdd,Nat.reduceSub,Array.replicate_succ,Array.replicate_zero,List.push_toArray,List.append_toArray,List.nil_append,List.cons_append]
 gi_wp2
 clear Z
 have T0:Tab w.heap.size N (((((w.alloc (.cells #[.bool false] 4)).alloc (.cells (madeCells #[.int .i64 0] N) 2)).alloc (.cells #[.slice (some ⟨w.heap.size+1,0,none⟩) N N] 73)).alloc (.cells (madeCells #[.int .i64 0] N) 2)).alloc (.cells #[.slice (some ⟨w.heap.size+1+1+1,0,none⟩) N N] 73)) (Xao K 0) (Wf K 0) false:=by
  refine ⟨((((Boxed.new w _ _).alloc _).alloc _).alloc _).alloc _, ?_, ?_, ?_, ?_⟩
  ·have:=(((World.rowIs_made (w.alloc (.cells #[.bool false] 4)) (.int .i64 0) N 2).alloc (.cells #[.slice (some ⟨w.heap.size+1,0,none⟩) N N] 73)).alloc (.cells (madeCells #[.int .i64 0] N) 2)).alloc (.cells #[.slice (some ⟨w.heap.size+1+1+1,0,none⟩) N N] 73)
   rw[World.size_alloc] at this
   exact this.congr fun j _=>by simp[Xao]
  ·have:=((Boxed.new ((w.alloc (.cells #[.bool false] 4)).alloc (.cells (madeCells #[.int .i64 0] N) 2)) 73 (.slice (some ⟨w.heap.size+1,0,none⟩) N N)).alloc (.cells (madeCells #[.int .i64 0] N) 2)).alloc (.cells #[.slice (some ⟨w.heap.size+1+1+1,0,none⟩) N N] 73)
   simpa using this
  ·have:=(World.rowIs_made (((w.alloc (.cells #[.bool false] 4)).alloc (.cells (madeCells #[.int .i64 0] N) 2)).alloc (.cells #[.slice (some ⟨w.heap.size+1,0,none⟩) N N] 73)) (.int .i64 0) N 2).alloc (.cells #[.slice (some ⟨w.heap.size+1+1+1,0,none⟩) N N] 73)
   simp only[World.size_alloc] at this
   exact this.congr fun j _=>by simp[Wf]
  ·have:=Boxed.new ((((w.alloc (.cells #[.bool false] 4)).alloc (.cells (madeCells #[.int .i64 0] N) 2)).alloc (.cells #[.slice (some ⟨w.heap.size+1,0,none⟩) N N] 73)).alloc (.cells (madeCells #[.int .i64 0] N) 2)) 73 (.slice (some ⟨w.heap.size+1+1+1,0,none⟩) N N)
   simpa using this
 have B0:Below w.heap.size w (((((w.alloc (.cells #[.bool false] 4)).alloc (.cells (madeCells #[.int .i64 0] N) 2)).alloc (.cells #[.slice (some ⟨w.heap.size+1,0,none⟩) N N] 73)).alloc (.cells (madeCells #[.int .i64 0] N) 2)).alloc (.cells #[.slice (some ⟨w.heap.size+1+1+1,0,none⟩) N N] 73)):=
  (((((Below.refl _ w).alloc (Nat.le_refl _) _).alloc (by simp) _).alloc (by simp;omega) _).alloc (by simp;omega) _).alloc (by simp;omega) _
 refine wpIn_loop (X42 dp K N kb w.heap.size w) (fun a _=>N-Xxa a) ?start ?round
 case start=>exact ⟨0,[],undef,undef,undef,undef,undef,undef,undef,undef,undef,undef,undef,undef,undef,undef,undef,undef,undef,undef,undef,undef,undef,undef,undef,undef,undef,undef,undef,undef,undef,undef,undef,undef,undef,undef,undef,undef,undef,undef,undef,undef,undef,undef,undef,undef,undef,undef,undef,undef,undef,undef,undef,undef,undef,undef,undef,undef,undef,undef,undef,undef,undef,undef,undef,undef,undef,undef,Nat.zero_le _,rfl,fun j hj=>by omega,T0,B0,List.nodup_nil,fun D hD=>by cases hD⟩
 case round =>
  clear T0 B0
  rintro a W ⟨k,T,u2,u3,u7,u8,u9,bq,d7,br,d8,d9,fa,fc,fd,fe,ff,fg,fh,fi,fj,fk,bs,bt,bu,bv,bw,bx,bz,b0,b1,b2,b3,b4,b5,b6,b7,b8,b9,ca,cc,cd,ce,cf,cg,ch,cj,ck,cl,cm,cn,co,cp,cq,cr,cs,ct,cu,cv,cw,cx,cy,cz,c6,c7,c8,c9,da,fl,rfl,bf,s,p,Z⟩
  have HA:=Xa bf
  have HM:=Xa Z
  clear bf Z
  by_cases hlt:k<N
  ·have db : W.cell? ⟨kb, k, none⟩ = some (KV k) := (Xc p (by omega)).trans (hk k hlt).1
   have bh:=(hk k hlt).2.below (p.mono hB)
   have HI:=Xa bh
   obtain ⟨dc,d0,y,d,eK,_⟩:=bh
   rw[eK] at db HI
   clear eK
   have fm:=s.row2.cell hlt
   have dd:=s.row2.frozen
   have bj:=s.box2.cell
   have bk:=s.box1.cell
   have fn:=s.box2.lt
   have de:=p.size
   have d6:w.heap.size+1+1+1<W.heap.size:=by omega
   have ba:=Xa s
   have fA:∀o o',((W.alloc o).alloc o').frozen? ⟨w.heap.size+1+1+1,k,none⟩=false:=fun o o'=>((s.row2.alloc o).alloc o').frozen k
   have cA:∀o o',((W.alloc o).alloc o').cell? ⟨w.heap.size+1+1+1,k,none⟩=some (.int .i64 (Wf K k k)):=fun o o'=>((s.row2.alloc o).alloc o').cell hlt
   clear s hk dd
   have fo:kb<W.heap.size:=by omega
   gi_wp2_with (refine ⟨trivial, ?_⟩;gi_at_call 86;refine (X3e Fence.wide _ trivial rfl _ _ _ _).mono ?_;rintro e w' ⟨rfl,rfl⟩)
   have TB:Tab w.heap.size N ((((W.alloc (.cells #[.int .i64 k] 3)).alloc (.cells #[.int .i64 k] 2)).setCell ⟨w.heap.size+1+1+1,k,none⟩ (.int .i64 1)).alloc (.cells #[.slice y (K k).length d] 73)) (Xao K k) (fun j=>if j=k then ((0:Nat):Int)+1 else Wf K k j) false:=(((ba.out.alloc _).alloc _).setH k 1).alloc _
   have bi:Boxed ((((W.alloc (.cells #[.int .i64 k] 3)).alloc (.cells #[.int .i64 k] 2)).setCell ⟨w.heap.size+1+1+1,k,none⟩ (.int .i64 1)).alloc (.cells #[.slice y (K k).length d] 73)) W.heap.size 3 (.int .i64 k):=(Yu ((Boxed.new W _ _).alloc _) (Z7 (by omega)) _).alloc _
   have bb:Boxed ((((W.alloc (.cells #[.int .i64 k] 3)).alloc (.cells #[.int .i64 k] 2)).setCell ⟨w.heap.size+1+1+1,k,none⟩ (.int .i64 1)).alloc (.cells #[.slice y (K k).length d] 73)) (W.heap.size+1) 2 (.int .i64 k):=by
    have:=Boxed.new (W.alloc (.cells #[.int .i64 k] 3)) 2 (.int .i64 k)
    rw[World.size_alloc] at this
    exact (Yu this (Z7 (by omega)) _).alloc _
   have cS:((((W.alloc (.cells #[.int .i64 k] 3)).alloc (.cells #[.int .i64 k] 2)).setCell ⟨w.heap.size+1+1+1,k,none⟩ (.int .i64 1)).alloc (.cells #[.slice y (K k).length d] 73)).cell? ⟨W.heap.size+1+1,0,none⟩=some (.slice y (K k).length d):=by
    have:=(Boxed.new (((W.alloc (.cells #[.int .i64 k] 3)).alloc (.cells #[.int .i64 k] 2)).setCell ⟨w.heap.size+1+1+1,k,none⟩ (.int .i64 1)) 73 (.slice y (K k).length d)).cell
    simpa using this
   have BE:Below w.heap.size w ((((W.alloc (.cells #[.int .i64 k] 3)).alloc (.cells #[.int .i64 k] 2)).setCell ⟨w.heap.size+1+1+1,k,none⟩ (.int .i64 1)).alloc (.cells #[.slice y (K k).length d] 73)):=(((p.alloc de _).alloc (by simp;omega) _).setCell (by simp;omega) _).alloc (by simp;omega) _
   have ME:Marks ((((W.alloc (.cells #[.int .i64 k] 3)).alloc (.cells #[.int .i64 k] 2)).setCell ⟨w.heap.size+1+1+1,k,none⟩ (.int .i64 1)).alloc (.cells #[.slice y (K k).length d] 73)) w.heap.size T:=HM.out.keeps ((((KeepsOthers.alloc W _).trans (KeepsOthers.alloc _ _)).trans (KeepsOthers.setCell _ _ _)).trans (KeepsOthers.alloc _ _))
   have sE:((((W.alloc (.cells #[.int .i64 k] 3)).alloc (.cells #[.int .i64 k] 2)).setCell ⟨w.heap.size+1+1+1,k,none⟩ (.int .i64 1)).alloc (.cells #[.slice y (K k).length d] 73)).heap.size=W.heap.size+1+1+1:=by simp
   have IE:IntsAt B ((((W.alloc (.cells #[.int .i64 k] 3)).alloc (.cells #[.int .i64 k] 2)).setCell ⟨w.heap.size+1+1+1,k,none⟩ (.int .i64 1)).alloc (.cells #[.slice y (K k).length d] 73)) (.slice y (K k).length d) (K k):=HI.out.below ((((Below.refl _ W).alloc (by omega) _).alloc (by simp;omega) _).setCell (by simp;omega) _|>.alloc (by simp;omega) _)
   have bc:∀D∈T,D<W.heap.size:=fun D hD=>(Array.getElem?_eq_some_iff.1 (HM.out.2 D hD).2).1
   generalize ((((W.alloc (.cells #[.int .i64 k] 3)).alloc (.cells #[.int .i64 k] 2)).setCell ⟨w.heap.size+1+1+1,k,none⟩ (.int .i64 1)).alloc (.cells #[.slice y (K k).length d] 73))=W2 at *
   refine wpIn_rangeFunc_ownG (F:=Fence.wide) (n:=6) rfl (by decide) (gf:=133) (lb:= #[.pointer (some ⟨W.heap.size+1+1,0,none⟩)]) rfl trivial (enters_of Tryz.func133 (by kernel_rfl) rfl)
    (Xuq Fence.wide (6-1) trivial rfl (by decide) (W.heap.size+1+1) B (.slice y (K k).length d) (K k) W2 (by omega) (by omega) cS IE) KpB.trans ?hKb (Below.refl _ _) (fun _=>rfl)
    (X31 K N w.heap.size W.heap.size k w T) (X32 K N w.heap.size W.heap.size k w T) (Xzg (fun D hD=>by have:=bc D hD;omega) (by omega)) (Xzh (fun D hD=>by have:=bc D hD;omega) (by omega)) ⟨k,0,rfl,Nat.le_refl _,Nat.zero_le _,TB,bi,bb,BE,ME⟩
    (fun x=>{tmps:= #[.slice (some ⟨kb,0,none⟩) N N, .int .i64 dp,u2,u3, .pointer (some ⟨w.heap.size,0,none⟩), .pointer (some ⟨w.heap.size+1+1,0,none⟩), .pointer (some ⟨w.heap.size+1+1+1+1,0,none⟩), .pointer (some ⟨W.heap.size,0,none⟩), .slice y (K k).length d, .pointer (some ⟨W.heap.size+1,0,none⟩),bq, .int .i64 x.2,br, .slice (some ⟨kb,0,none⟩) N N, .int .i64 N, .slice (some ⟨w.heap.size+1,0,none⟩) N N, .slice (some ⟨kb,0,none⟩) N N, .int .i64 N, .slice (some ⟨w.heap.size+1+1+1,0,none⟩) N N, .slice (some ⟨kb,0,none⟩) N N, .int .i64 N, .int .i64 k, .bool true, .int .i64 k, .pointer (some ⟨kb,k,none⟩), .slice y (K k).length d, .int .i64 k, .slice (some ⟨w.heap.size+1+1+1,0,none⟩) N N, .int .i64 k, .pointer (some ⟨w.heap.size+1+1+1,k,none⟩), .slice y (K k).length d, .func (.func 133) #[] #[.pointer (some ⟨W.heap.size+1+1,0,none⟩)], .int .i64 (x.1:Int), .int .i64 x.2,bs,bt,bu,bv,bw,bx,bz,b0,b1,b2,b3,b4,b5,b6,b7,b8,b9,ca,cc,cd,ce,cf,cg,ch,cj,ck,cl,cm,cn,co,cp,cq,cr,cs,ct,cu,cv,cw,cx,cy,cz,c6,c7,c8,c9,da],defers:= []}) ?assign ?body ?done ?stop
   case hKb=>
    intro X l o o' hl ho _ _
    refine ⟨⟨rfl,rfl,rfl,by simp[World.putObj],fun j hj=>World.putObj_heap_other (by omega)⟩, ?_⟩
    unfold World.cell?
    rw[show (X.putObj l o').heap[(⟨W.heap.size+1+1,0,none⟩:Addr).block]? =X.heap[(⟨W.heap.size+1+1,0,none⟩:Addr).block]? from World.putObj_heap_other (by simp;omega)]
   case assign=>
    intro l x X K' df
    unfold Xmj
    gi_wp2
    exact df
   case body =>
    rintro l bd x X ⟨b,h,f,dg,dh,G,C,t,BX,MX⟩ bl
    have di:Tryz.prog.follows .mixedOrders=true:=by kernel_rfl
    have HC:=Xa f
    have HX:=Xa G
    have J:=Xa MX
    have dj:=Xa C
    have dk:=Xa t
    have cb:=t.cell
    have fb:=t.frozen
    have ci:=C.cell
    have cR:=G.res.cell
    have fR:=G.res.frozen
    have bk:=G.box1.cell
    have bj:=G.box2.cell
    have lX:=t.lt
    clear f G MX C t cS IE bi bb TB ME cA fA bl
    by_cases hb0:b=0
    ·have hq:((b:Int)==0)=true:=by simp[hb0]
     have HN:Hid (Xap K k (bd++ [x])=none):=by rw[Hid,Xem,HC.out];simp[Xy,hb0]
     clear hb0
     gi_wp2
     exact ⟨(KeepsOthers.setCell _ _ _).from _,rfl,HN.out,(HX.out.setRes false).res,BX.setCell (Nat.le_refl _) _,J.out.keeps (KeepsOthers.setCell _ _ _)⟩
    ·obtain ⟨m,rfl⟩:∃m,b=m+1:=⟨b-1,by omega⟩
     have hq:((((m+1:Nat):Int))==0)=false:=by simp;omega
     have fp:(((m:Int)+1)==0)=false:=by simp;omega
     by_cases hx:x.2=(m:Int)
     ·obtain ⟨x1,x2⟩:=x
      simp only at hx
      subst hx
      obtain ⟨⟨q,z⟩,V⟩:=Option.isSome_iff_exists.1 (HA.out m (by omega))
      have hd:=Xj1 m _ V
      simp only at hd
      have HN:Hid (Xap K k (bd++ [(x1,(m:Int))])=some (q,max h z)):=by rw[Hid,Xem,HC.out];simp[Xy,V]
      have c1:X.cell? ⟨w.heap.size+1,m,none⟩=some (.int .i64 (q:Int)):=by
       rw[HX.out.row1.cell (by omega),Xao,if_pos (by omega),V];rfl
      have dl:((m:Int) !=(m:Int))=false:=by simp
      have fq:(m:Int)<(N:Int):=by omega
      have TY:Tab w.heap.size N (X.setCell ⟨W.heap.size+1,0,none⟩ (.int .i64 q)) (Xao K k) (fun j=>if j=k then (h:Int)+1 else Wf K k j) false:=HX.out.other (by simp;omega) _
      have bm:Boxed (X.setCell ⟨W.heap.size+1,0,none⟩ (.int .i64 q)) W.heap.size 3 (.int .i64 k):=Yu dj.out (Z7 (by omega)) _
      have bn:Boxed (X.setCell ⟨W.heap.size+1,0,none⟩ (.int .i64 q)) (W.heap.size+1) 2 (.int .i64 q):=dk.out.set _
      have BY:Below w.heap.size w (X.setCell ⟨W.heap.size+1,0,none⟩ (.int .i64 q)):=BX.setCell (by simp;omega) _
      have MY:Marks (X.setCell ⟨W.heap.size+1,0,none⟩ (.int .i64 q)) w.heap.size T:=J.out.keeps (KeepsOthers.setCell _ _ _)
      have kY:KeepsOthers X (X.setCell ⟨W.heap.size+1,0,none⟩ (.int .i64 q)):=KeepsOthers.setCell _ _ _
      have pY:KpB B (W.heap.size+1+1) X (X.setCell ⟨W.heap.size+1,0,none⟩ (.int .i64 q)):=⟨(Below.refl _ _).setCell (by simp;omega) _,World.cell?_setCell_other _ _ _ _ (by simp)⟩
      have L:=Xa TY
      have bg:=Xa bm
      have bo:=Xa bn
      have dm:=Xa BY
      have dq:=Xa MY
      have dr:=Xa kY
      have ds:=Xa pY
      clear TY bm bn BY MY kY pY
      gi_wp2
      generalize (X.setCell ⟨W.heap.size+1,0,none⟩ (.int .i64 q))=Y at *
      refine wpIn_region_any di ?_
      have d1:Y.drew.cell? ⟨w.heap.size+1+1+1+1,0,none⟩=some (.slice (some ⟨w.heap.size+1+1+1,0,none⟩) N N):=L.out.drew.box2.cell
      have d2:Y.drew.cell? ⟨W.heap.size,0,none⟩=some (.int .i64 k):=bg.out.cell
      have d3:Y.drew.cell? ⟨w.heap.size+1+1+1,k,none⟩=some (.int .i64 ((h:Int)+1)):=by
       rw[L.out.drew.row2.cell hlt,if_pos rfl]
      have d4:Y.drew.cell? ⟨w.heap.size+1+1+1,m,none⟩=some (.int .i64 (z:Int)):=by
       rw[L.out.drew.row2.cell (by omega),if_neg (by omega),Wf,if_pos (by omega),V];rfl
      have d5:Y.drew.frozen? ⟨w.heap.size+1+1+1,k,none⟩=false:=L.out.drew.row2.frozen k
      clear cb fb ci cR fR bk bj c1 V
      refine Xq0 (s0:=46) (N:=12) (W:=Y.drew) (W':=Y.drew.setCell ⟨w.heap.size+1+1+1,k,none⟩ (.int .i64 ((max h z:Nat)+1:Int))) (vN:= .pointer (some ⟨w.heap.size+1+1+1,k,none⟩))
       (val:=fun i=>([.slice (some ⟨w.heap.size+1+1+1,0,none⟩) N N, .int .i64 k, .slice (some ⟨w.heap.size+1+1+1,0,none⟩) N N, .int .i64 k, .pointer (some ⟨w.heap.size+1+1+1,k,none⟩), .int .i64 ((h:Int)+1), .slice (some ⟨w.heap.size+1+1+1,0,none⟩) N N, .int .i64 m, .pointer (some ⟨w.heap.size+1+1+1,m,none⟩), .int .i64 (z:Int), .int .i64 ((z:Int)+1), .int .i64 ((max h z:Nat)+1:Int)]:List Value).getD i undef) rfl (by simp) ?hd ?hN ?hN1 ?hQ
      case hd=>
       intro i hi
       match i,hi with
       |0,_=>
        refine ⟨_,rfl,rfl,rfl,(fun c=>by simp),(by simp[Region.binds]),fun ρ hr hlo hcs=> ?_⟩
        have f6:=hlo 6 (by decide)
        simp[Act.eval] at f6
        clear hr hlo
        refine ⟨?_,by simp[Oper.about,go_sem]⟩
        go_simp
       |1,_=>
        refine ⟨_,rfl,rfl,rfl,(fun c=>by simp),(by simp[Region.binds]),fun ρ hr hlo hcs=> ?_⟩
        have f7:=hlo 7 (by decide)
        simp[Act.eval] at f7
        clear hr hlo
        refine ⟨?_,by simp[Oper.about,go_sem]⟩
        go_simp
       |2,_=>
        refine ⟨_,rfl,rfl,rfl,(fun c=>by simp),(by simp[Region.binds]),fun ρ hr hlo hcs=> ?_⟩
        have f6:=hlo 6 (by decide)
        simp[Act.eval] at f6
        clear hr hlo
        refine ⟨?_,by simp[Oper.about,go_sem]⟩
        go_simp
       |3,_=>
        refine ⟨_,rfl,rfl,rfl,(fun c=>by simp),(by simp[Region.binds]),fun ρ hr hlo hcs=> ?_⟩
        have f7:=hlo 7 (by decide)
        simp[Act.eval] at f7
        clear hr hlo
        refine ⟨?_,by simp[Oper.about,go_sem]⟩
        go_simp
       |4,_=>
        refine ⟨_,rfl,rfl,rfl,(fun c=>by simp),(by simp[Region.binds]),fun ρ hr hlo hcs=> ?_⟩
        have e2:=hr ⟨2, .data⟩ (by simp)
        have e3:=hr ⟨3, .data⟩ (by simp)
        simp[Act.eval] at e2 e3
        clear hr hlo
        refine ⟨?_,by simp[Oper.about,go_sem]⟩
        go_simp
       |5,_=>
        refine ⟨_,rfl,rfl,rfl,(fun c=>by simp),(by simp[Region.binds]),fun ρ hr hlo hcs=> ?_⟩
        have e4:=hr ⟨4, .data⟩ (by simp)
        simp[Act.eval] at e4
        clear hr hlo
        refine ⟨?_,by simp[Oper.about,go_sem]⟩
        go_simp
       |6,_=>
        refine ⟨_,rfl,rfl,rfl,(fun c=>by simp),(by simp[Region.binds]),fun ρ hr hlo hcs=> ?_⟩
        have f6:=hlo 6 (by decide)
        simp[Act.eval] at f6
        clear hr hlo
        refine ⟨?_,by simp[Oper.about,go_sem]⟩
        go_simp
       |7,_=>
        refine ⟨_,rfl,rfl,rfl,(fun c=>by simp),(by simp[Region.binds]),fun ρ hr hlo hcs=> ?_⟩
        have dt:=hlo 11 (by decide)
        simp[Act.eval] at dt
        clear hr hlo
        refine ⟨?_,by simp[Oper.about,go_sem]⟩
        go_simp
       |8,_=>
        refine ⟨_,rfl,rfl,rfl,(fun c=>by simp),(by simp[Region.binds]),fun ρ hr hlo hcs=> ?_⟩
        have e6:=hr ⟨6, .data⟩ (by simp)
        have e7:=hr ⟨7, .data⟩ (by simp)
        simp[Act.eval] at e6 e7
        clear hr hlo
        refine ⟨?_,by simp[Oper.about,go_sem]⟩
        go_simp
       |9,_=>
        refine ⟨_,rfl,rfl,rfl,(fun c=>by simp),(by simp[Region.binds]),fun ρ hr hlo hcs=> ?_⟩
        have e8:=hr ⟨8, .data⟩ (by simp)
        simp[Act.eval] at e8
        clear hr hlo
        refine ⟨?_,by simp[Oper.about,go_sem]⟩
        go_simp
       |10,_=>
        refine ⟨_,rfl,rfl,rfl,(fun c=>by simp),(by simp[Region.binds]),fun ρ hr hlo hcs=> ?_⟩
        have e9:=hr ⟨9, .data⟩ (by simp)
        simp[Act.eval] at e9
        clear hr hlo
        refine ⟨?_,by simp[Oper.about,go_sem]⟩
        go_simp
        rw[IntKind.wrap_i64]
        omega
       |11,_=>
        refine ⟨_,rfl,rfl,rfl,(fun c=>by simp),(by simp[Region.binds]),fun ρ hr hlo hcs=> ?_⟩
        have e5:=hr ⟨5, .data⟩ (by simp)
        have du:=hr ⟨10, .data⟩ (by simp)
        simp[Act.eval] at e5 du
        clear hr hlo
        refine ⟨?_,by simp[Oper.about,go_sem]⟩
        go_simp
        split<;>omega
      case hN=>
       refine ⟨_,rfl,rfl,rfl,(fun c=>by simp),(by simp), ?_,fun ρ hr hlo=> ?_⟩
       ·intro j hj
        match j,hj with
        |0,_=>exact ⟨⟨0, .phase⟩,by simp,rfl,rfl⟩
        |1,_=>exact ⟨⟨1, .phase⟩,by simp,rfl,rfl⟩
        |2,_=>exact ⟨⟨2, .phase⟩,by simp,rfl,rfl⟩
        |3,_=>exact ⟨⟨3, .phase⟩,by simp,rfl,rfl⟩
        |4,_=>exact ⟨⟨4, .phase⟩,by simp,rfl,rfl⟩
        |5,_=>exact ⟨⟨5, .phase⟩,by simp,rfl,rfl⟩
        |6,_=>exact ⟨⟨6, .phase⟩,by simp,rfl,rfl⟩
        |7,_=>exact ⟨⟨7, .phase⟩,by simp,rfl,rfl⟩
        |8,_=>exact ⟨⟨8, .phase⟩,by simp,rfl,rfl⟩
        |9,_=>exact ⟨⟨9, .phase⟩,by simp,rfl,rfl⟩
        |10,_=>exact ⟨⟨10, .phase⟩,by simp,rfl,rfl⟩
        |11,_=>exact ⟨⟨11, .phase⟩,by simp,rfl,rfl⟩
       ·have e0:=hr 0 (by decide)
        have e1:=hr 1 (by decide)
        simp at e0 e1
        clear hr hlo
        refine ⟨?_,by simp[Oper.about,go_sem]⟩
        go_simp
      case hN1=>
       refine ⟨_,rfl,rfl,rfl,(fun c=>by simp),(by simp),⟨⟨12, .data⟩,by simp,rfl,rfl⟩,fun ρ hr hv hlo=> ?_⟩
       have dv:=hr 11 (by decide)
       simp at dv hv
       clear hr hlo
       refine ⟨?_,by simp[Oper.about,go_sem]⟩
       go_simp
      case hQ=>
       intro a'
       refine ⟨((dr.out.trans (KeepsOthers.drew _)).trans (KeepsOthers.setCell _ _ _)).from _,ds.out.trans ⟨((Below.refl _ _).drew).setCell (by simp;omega) _,World.cell?_setCell_other _ _ _ _ (by simp)⟩,
        q,max h z,HN.out,by omega,by omega, ?_,Yu (show Boxed Y.drew _ _ _ from bg.out) (Z7 (by omega)) _,Yu (show Boxed Y.drew _ _ _ from bo.out) (Z7 (by omega)) _,dm.out.drew.setCell (by simp;omega) _,(dq.out.keeps (KeepsOthers.drew _)).keeps (KeepsOthers.setCell _ _ _)⟩
       exact (L.out.drew.setH k _).congr (fun j _=>rfl) (fun j _=>by by_cases e:j=k<;>simp[e])
     ·have dl:(x.2 !=(m:Int))=true:=by simp[hx]
      have HN:Hid (Xap K k (bd++ [x])=none):=by rw[Hid,Xem,HC.out];simp[Xy,hx]
      clear hx
      gi_wp2
      exact ⟨(KeepsOthers.setCell _ _ _).from _,rfl,HN.out,(HX.out.setRes false).res,BX.setCell (Nat.le_refl _) _,J.out.keeps (KeepsOthers.setCell _ _ _)⟩
   case done=>
    rintro D xs X hD hS ⟨b,h,f,dg,dh,G,C,t,BX,MX⟩ be
    have M:Hid (tr K k=some (b,h+1)):=Xzf hS f
    have c1:=G.box1.cell
    have c2:=G.row1.cell hlt
    have f2:=G.row1.frozen k
    have c3:=C.cell
    have c4:=t.cell
    have HX:=Xa G
    have J:=Xa MX
    have dw:=Xa be
    clear f G C t MX be hS cS IE bi bb TB ME cA fA
    gi_wp2
    have e1:((k:Int)+1)=((k+1:Nat):Int):=by omega
    have dx:Below w.heap.size w (X.setCell ⟨w.heap.size+1,k,none⟩ (.int .i64 b)):=BX.setCell (by simp) _
    have dy:Marks (X.setCell ⟨w.heap.size+1,k,none⟩ (.int .i64 b)) w.heap.size (D::T):=(Xh1 J.out bc (by omega) (by omega) dw.out).keeps (KeepsOthers.setCell _ _ _)
    have dz:Tab w.heap.size N (X.setCell ⟨w.heap.size+1,k,none⟩ (.int .i64 b)) (Xao K (k+1)) (Wf K (k+1)) false:=(HX.out.setF k b).congr (fun j _=>Xvt M.out j) (fun j _=>Xvu M.out j)
    rw[e1]
    refine ⟨⟨k+1,D::T,_,_,_,_,_,_,_,_,_,_,_,_,_,_,_,_,_,_,_,_,_,_,_,_,_,_,_,_,_,_,_,_,_,_,_,_,_,_,_,_,_,_,_,_,_,_,_,_,_,_,_,_,_,_,_,_,_,_,_,_,_,_,_,_,_,_,by omega,rfl, ?_,dz,dx,dy⟩, ?_⟩
    ·intro j hj
     by_cases e:j=k
     ·subst e;rw[M.out];rfl
     ·exact HA.out j (by omega)
    ·simp[Xxa,intOf];omega
   case stop=>
    rintro D c bd X hD bp ⟨rfl,f,bR,BX,MX⟩ be
    have M:Hid (Kb K N dp=false):=Xqm hlt (Xvs bp f)
    have M2:=Xh1 MX bc (by omega) (by omega) be
    clear f bp cS IE bi bb TB ME cA fA
    gi_wp2
    refine Xbm (lo:=w.heap.size) (D::T) X M2 ?_
    intro X' R g
    have hc:X'.heap[w.heap.size]? =some (.cells #[.bool false] 4 (0,0)):=(g _ (Xaq bR M2)).trans bR
    have S:X'.cell? ⟨w.heap.size,0,none⟩=some (.bool false):=Boxed.cell hc
    refine ⟨.bool false,by simp[results,Tryz.results40,go_sem,S],Xi M.out.symm,BX.trans R⟩
  ·obtain rfl:k=N:=by omega
   obtain ⟨⟨q,z⟩,V⟩:=Option.isSome_iff_exists.1 (HA.out (k-1) (by omega))
   have HR:Hid (Kb K k dp=(decide (q=0)&&decide ((z:Int)<=dp))):=by
    rw[Hid,Xtb HA.out,Ga,V]
   have c1:W.cell? ⟨w.heap.size+1,k-1,none⟩=some (.int .i64 (q:Int)):=by
    rw[s.row1.cell (by omega),Xao,if_pos (by omega),V];rfl
   have c2:W.cell? ⟨w.heap.size+1+1+1,k-1,none⟩=some (.int .i64 (z:Int)):=by
    rw[s.row2.cell (by omega),Wf,if_pos (by omega),V];rfl
   have c3:=s.box1.cell
   have c4:=s.box2.cell
   have c5:=s.res.cell
   have f5:=s.res.frozen
   have p0:((k:Int)-1).toNat=k-1:=by omega
   have ba:=Xa s
   clear s hk V
   by_cases hz:q=0
   ·have hq:((q:Int)==0)=true:=by simp[hz]
    have HP:=Xa hz
    clear hz
    gi_wp2
    have TR:=ba.out.setRes (decide ((z:Int)<=dp))
    have MR:=HM.out.keeps (KeepsOthers.setCell W ⟨w.heap.size,0,none⟩ (.bool (decide ((z:Int)<=dp))))
    refine Xbm (lo:=w.heap.size) T _ MR ?_
    intro X' R g
    have hc:X'.heap[w.heap.size]? =some (.cells #[.bool (decide ((z:Int)<=dp))] 4 (0,0)):=(g _ (Xaq TR.res MR)).trans TR.res
    have S:X'.cell? ⟨w.heap.size,0,none⟩=some (.bool (decide ((z:Int)<=dp))):=Boxed.cell hc
    refine ⟨.bool (decide ((z:Int)<=dp)),by simp[results,Tryz.results40,go_sem,S],Xi (by rw[HR.out];simp[HP.out]),(p.setCell (by simp) _).trans R⟩
   ·have hq:((q:Int)==0)=false:=by simp[hz]
    have HP:=Xa hz
    clear hz
    gi_wp2
    have TR:=ba.out.setRes false
    have MR:=HM.out.keeps (KeepsOthers.setCell W ⟨w.heap.size,0,none⟩ (.bool false))
    refine Xbm (lo:=w.heap.size) T _ MR ?_
    intro X' R g
    have hc:X'.heap[w.heap.size]? =some (.cells #[.bool false] 4 (0,0)):=(g _ (Xaq TR.res MR)).trans TR.res
    have S:X'.cell? ⟨w.heap.size,0,none⟩=some (.bool false):=Boxed.cell hc
    refine ⟨.bool false,by simp[results,Tryz.results40,go_sem,S],Xi (by rw[HR.out];simp[HP.out]),(p.setCell (by simp) _).trans R⟩
end Go.Proofs.YtdjddneidbddpaaGreatDoor
