import Derived.Test.YtdjddneidbddpaaGreatDoorSeF
import Derived.Test.YtdjddneidbddpaaGreatDoorIMrg
import Derived.Laws.AppendOwn
import Derived.Deep.QuietTactic
import Derived.BigQuiet
import Derived.Test.YtdjddneidbddpaaGreatDoorSeQ
import Derived.Test.YtdjddneidbddpaaGreatDoorStbN
import Derived.Deep.RegionWith
import Derived.Test.YtdjddneidbddpaaGreatDoorByP
import Derived.Laws.Concat
namespace Go.Proofs.YtdjddneidbddpaaGreatDoor
set_option linter.unusedSectionVars false
set_option maxRecDepth 100000
set_option maxHeartbeats 3200000
open Go.RowKit
set_option linter.unusedSimpArgs false
set_option linter.unusedVariables false
structure ButE (E:Nat) (w w':World):Prop where
 os:w'.os=w.os
 tape:w'.tape=w.tape
 output:w'.output=w.output
 size:w.heap.size<=w'.heap.size
 block:∀c,c<w.heap.size->c≠E->w'.heap[c]? =w.heap[c]?
theorem ButE.refl (E:Nat) (w:World):ButE E w w:=⟨rfl,rfl,rfl,Nat.le_refl _,fun _ _ _=>rfl⟩
theorem ButE.trans {E:Nat} {a b c:World} (h:ButE E a b) (k:ButE E b c):ButE E a c:=
 ⟨k.os.trans h.os,k.tape.trans h.tape,k.output.trans h.output,Nat.le_trans h.size k.size,fun x hx hn=>(k.block x (Nat.lt_of_lt_of_le hx h.size) hn).trans (h.block x hx hn)⟩
theorem ButE.of_below {E:Nat} {w w':World} (h:Below w.heap.size w w'):ButE E w w':=⟨h.os,h.tape,h.output,h.size,fun k hk _=>h.block k hk⟩
theorem ButE.below {E B:Nat} {w w':World} (h:ButE E w w') (hB:B<=E) (hw:B<=w.heap.size):Below B w w':=⟨h.os,h.tape,h.output,h.size,fun k hk=>h.block k (by omega) (by omega)⟩
structure FrH (Z E O:Nat) (w w':World):Prop where
 os:w'.os=w.os
 tape:w'.tape=w.tape
 output:w'.output=w.output
 size:w.heap.size<=w'.heap.size
 block:∀k,k<Z->k≠E->w'.heap[k]? =w.heap[k]?
 cell:∀b o v,b≠E->b≠O->v≠ .nilIface->w.cell? ⟨b,o,none⟩=some v->w'.cell? ⟨b,o,none⟩=some v
theorem FrH.refl (Z E O:Nat) (w:World):FrH Z E O w w:=⟨rfl,rfl,rfl,Nat.le_refl _,fun _ _ _=>rfl,fun _ _ _ _ _ _ h=>h⟩
theorem FrH.trans {Z E O:Nat} {a b c:World} (h:FrH Z E O a b) (k:FrH Z E O b c):FrH Z E O a c:=
 ⟨k.os.trans h.os,k.tape.trans h.tape,k.output.trans h.output,Nat.le_trans h.size k.size,fun x hx hn=>(k.block x hx hn).trans (h.block x hx hn),fun b o v h1 h2 h3 h4=>k.cell b o v h1 h2 h3 (h.cell b o v h1 h2 h3 h4)⟩
theorem ButE.frh {Z E O:Nat} {w w':World} (h:ButE E w w') (hZ:Z<=w.heap.size):FrH Z E O w w':=
 ⟨h.os,h.tape,h.output,h.size,fun k hk hn=>h.block k (by omega) hn,fun b o v h1 _ _ hc=>(World.cell?_of_block (w:=w) (w':=w') (a:=⟨b,o,none⟩) (h.block b (X7 hc) h1)).trans hc⟩
theorem FrH.of_below {Z E O:Nat} {w w':World} (h:Below w.heap.size w w') (hZ:Z<=w.heap.size):FrH Z E O w w':=(ButE.of_below (E:=E) h).frh hZ
theorem FrH.below {Z E O B:Nat} {w w':World} (h:FrH Z E O w w') (hB:B<=E) (hZ:B<=Z):Below B w w':=⟨h.os,h.tape,h.output,h.size,fun k hk=>h.block k (by omega) (by omega)⟩
structure Errs4 (w:World):Prop where
 two:Errs2 w
 outs:∃a a0:Addr,w.cell? ⟨1,0,none⟩=some (.iface 257 (.pointer (some a)))/\w.cell? ⟨3,0,none⟩=some (.iface 257 (.pointer (some a0)))/\a≠a0/\(∃cs t,w.heap[a.block]? =some (.cells cs t (0,0)))/\∃cs t,w.heap[a0.block]? =some (.cells cs t (0,0))
 fuel:∃a a0:Addr,w.cell? ⟨0,0,none⟩=some (.iface 257 (.pointer (some a)))/\w.cell? ⟨3,0,none⟩=some (.iface 257 (.pointer (some a0)))/\a≠a0/\(∃cs t,w.heap[a.block]? =some (.cells cs t (0,0)))/\∃cs t,w.heap[a0.block]? =some (.cells cs t (0,0))
theorem Errs4.keep {w w':World} (h:Errs4 w) (hb:Below w.heap.size w w'):Errs4 w':=by
 obtain ⟨z,⟨a,B,f,g,C,⟨c,t,j⟩,c0,D,l⟩,⟨b,F,o,p,G,⟨d,s,q⟩,J,L,y⟩⟩:=h
 exact ⟨z.below hb,⟨a,B,(Xc hb (X7 f)).trans f,(Xc hb (X7 g)).trans g,C,⟨c,t,(hb.block _ (Zn j)).trans j⟩,c0,D,(hb.block _ (Zn l)).trans l⟩,
  ⟨b,F,(Xc hb (X7 o)).trans o,(Xc hb (X7 p)).trans p,G,⟨d,s,(hb.block _ (Zn q)).trans q⟩,J,L,(hb.block _ (Zn y)).trans y⟩⟩
structure ErrB (B:Nat) (w:World):Prop where
 base:∃w0,Errs4 w0/\w0.heap.size=B/\Below B w0 w
theorem ErrB.now {B:Nat} {w:World} (h:ErrB B w):Errs4 w:=by
 obtain ⟨f,b,c,d⟩:=h.base
 subst c
 exact b.keep d
theorem ErrB.below {B:Nat} {w w':World} (h:ErrB B w) (hb:Below B w w'):ErrB B w':=by
 obtain ⟨b,c,d,f⟩:=h.base
 exact ⟨b,c,d,f.trans hb⟩
theorem ErrB.le {B:Nat} {w:World} (h:ErrB B w):B<=w.heap.size:=by
 obtain ⟨c,d,f,b⟩:=h.base
 have:=b.size
 omega
structure EvB (B E:Nat) (fv:Value) (fs:List FN) (fu:Nat) (w:World):Prop where
 blk:w.heap[E]? =some (.cells #[fv, .int .i64 (fu:Int)] 57 (0,0))
 nodes:FNodesAt B w fv fs
 hBE:B<=E
 errs:ErrB B w
theorem EvB.lt {B E:Nat} {fv:Value} {fs:List FN} {fu:Nat} {w:World} (h:EvB B E fv fs fu w):E<w.heap.size:=Zn h.blk
theorem EvB.below {B E:Nat} {fv:Value} {fs:List FN} {fu:Nat} {w w':World} (h:EvB B E fv fs fu w) (hb:Below w.heap.size w w'):EvB B E fv fs fu w':=
 ⟨(hb.block E h.lt).trans h.blk,h.nodes.below (hb.mono h.errs.le),h.hBE,h.errs.below (hb.mono h.errs.le)⟩
def OutRow (Z:Nat) (w:World) (sv:Value) (xs:List Value):Prop:=
 (sv= .slice none 0 0/\xs= [])\/∃g cap,sv= .slice (some ⟨g,0,none⟩) xs.length cap/\Z<=g/\w.heap[g]? =some (.cells (xs++List.replicate (cap-xs.length) Value.nilIface).toArray 52 (0,0))/\xs.length<=cap/\cap<=maxLen/\0<cap
structure OutsAt (Z E O:Nat) (w:World) (outs:List (List VN)) (sv:Value) (xs:List Value):Prop where
 box:w.heap[O]? =some (.cells #[sv] 58 (0,0))
 row:OutRow Z w sv xs
 len:xs.length=outs.length
 rep:∀j,j<outs.length->Rep w (Xn outs j) (xs.getD j undef)
 lo:Z<=O
 few:outs.length<=40
structure St (B Z E O:Nat) (fv:Value) (fs:List FN) (st:Xs) (w:World):Prop where
 ev:EvB B E fv fs st.1 w
 outs:∃sv xs,OutsAt Z E O w st.2 sv xs
 hEZ:E<Z
 hZ:Z<=w.heap.size
theorem Xw {w:World} {b:Nat} {cs:Array Value} {t:TypeId} {z:Nat×Nat} (h:w.heap[b]? =some (.cells cs t z)) (o:Nat):w.cell? ⟨b,o,none⟩=cs[o]? :=by
 simp[World.cell?,h]
theorem Xsr {fv:Value} {fu:Int} {o:Nat} {v:Value} (h:(#[fv, .int .i64 fu]:Array Value)[o]? =some v) (hf:∃a n c,fv= .slice a n c):(∀t x,v≠ .iface t x)/\∀s,v≠ .string s:=by
 obtain ⟨a,n,c,rfl⟩:=hf
 match o,h with
 |0,h=>simp at h;subst h;exact And.intro (by intro t x e;cases e) (by intro t e;cases e)
 |1,h=>simp at h;subst h;exact And.intro (by intro t x e;cases e) (by intro t e;cases e)
 |o+2,h=>simp at h
theorem OutRow.slice {Z:Nat} {w:World} {sv:Value} {xs:List Value} (h:OutRow Z w sv xs):∃a c,sv= .slice a xs.length c:=by
 rcases h with ⟨rfl,rfl⟩|⟨g,cap,rfl,_⟩
 ·exact ⟨none,0,rfl⟩
 ·exact ⟨_,_,rfl⟩
theorem FNodesAt.slice {B:Nat} {w:World} {v:Value} {fs:List FN} (h:FNodesAt B w v fs):∃a n c,v= .slice a n c:=by
 obtain ⟨_,a,c,rfl,_⟩:=h
 exact ⟨_,_,_,rfl⟩
theorem FrH.reads {Z E O:Nat} {w w':World} (h:FrH Z E O w w') {B:Nat} {fv:Value} {fs:List FN} {fu:Nat} (he:EvB B E fv fs fu w) {sv:Value} (hO:w.heap[O]? =some (.cells #[sv] 58 (0,0))) (hs:∃a n c,sv= .slice a n c):Reads2 w w':=by
 have f:∀o v,w.cell? ⟨E,o,none⟩=some v->(∀t x,v≠ .iface t x)/\∀s,v≠ .string s:=fun o v hc=>by
  rw[Xw he.blk] at hc
  exact Xsr hc he.nodes.slice
 have d:∀o v,w.cell? ⟨O,o,none⟩=some v->(∀t x,v≠ .iface t x)/\∀s,v≠ .string s:=fun o v hc=>by
  rw[Xw hO] at hc
  obtain ⟨a,n,c,rfl⟩:=hs
  match o,hc with
  |0,hc=>simp at hc;subst hc;exact And.intro (by intro t x e;cases e) (by intro t e;cases e)
  |o+1,hc=>simp at hc
 refine ⟨h.size,fun b o t x hc=>h.cell b o _ (fun e=> ?_) (fun e=> ?_) (fun e=>by cases e) hc,fun b o s hc=>h.cell b o _ (fun e=> ?_) (fun e=> ?_) (fun e=>by cases e) hc⟩
 ·subst e;exact (f _ _ hc).1 _ _ rfl
 ·subst e;exact (d _ _ hc).1 _ _ rfl
 ·subst e;exact (f _ _ hc).2 _ rfl
 ·subst e;exact (d _ _ hc).2 _ rfl
theorem ButE.reads {E:Nat} {w w':World} (h:ButE E w w') {B:Nat} {fv:Value} {fs:List FN} {fu:Nat} (he:EvB B E fv fs fu w):Reads2 w w':=by
 have c:∀o v,w.cell? ⟨E,o,none⟩=some v->(∀t x,v≠ .iface t x)/\∀s,v≠ .string s:=fun o v hc=>by
  rw[Xw he.blk] at hc
  exact Xsr hc he.nodes.slice
 have d:∀b o v,b≠E->w.cell? ⟨b,o,none⟩=some v->w'.cell? ⟨b,o,none⟩=some v:=fun b o v h1 hc=>(World.cell?_of_block (w:=w) (w':=w') (a:=⟨b,o,none⟩) (h.block b (X7 hc) h1)).trans hc
 refine ⟨h.size,fun b o t x hc=>d b o _ (fun e=> ?_) hc,fun b o s hc=>d b o _ (fun e=> ?_) hc⟩
 ·subst e;exact (c _ _ hc).1 _ _ rfl
 ·subst e;exact (c _ _ hc).2 _ rfl
theorem St.reads {B Z E O:Nat} {fv:Value} {fs:List FN} {st:Xs} {w w':World} (h:St B Z E O fv fs st w) (hf:FrH Z E O w w'):Reads2 w w':=by
 obtain ⟨d,f,b⟩:=h.outs
 obtain ⟨a,c,e⟩:=b.row.slice
 exact hf.reads h.ev b.box ⟨a,_,c,e⟩
theorem OutRow.keep {Z E:Nat} {w w':World} {sv:Value} {xs:List Value} (h:OutRow Z w sv xs) (hE:E<Z) (hb:ButE E w w'):OutRow Z w' sv xs:=by
 rcases h with h|⟨g,cap,e,h1,h2,h3⟩
 ·exact .inl h
 ·exact .inr ⟨g,cap,e,h1,(hb.block g (Zn h2) (by omega)).trans h2,h3⟩
theorem St.step {B Z E O:Nat} {fv:Value} {fs:List FN} {st:Xs} {fu:Nat} {w w':World} (h:St B Z E O fv fs st w) (hb:ButE E w w') (he:EvB B E fv fs fu w'):St B Z E O fv fs (fu,st.2) w':=by
 obtain ⟨c,d,b⟩:=h.outs
 have f:=hb.reads h.ev
 have g:=h.hEZ
 have l:=b.lo
 exact ⟨he,⟨c,d,(hb.block O (Zn b.box) (by omega)).trans b.box,b.row.keep h.hEZ hb,b.len,fun j hj=>(b.rep j hj).reads f,b.lo,b.few⟩,h.hEZ,Nat.le_trans h.hZ hb.size⟩
theorem St.below {B Z E O:Nat} {fv:Value} {fs:List FN} {st:Xs} {w w':World} (h:St B Z E O fv fs st w) (hb:Below w.heap.size w w'):St B Z E O fv fs st w':=h.step (.of_below hb) (h.ev.below hb)
theorem St.hO {B Z E O:Nat} {fv:Value} {fs:List FN} {st:Xs} {w:World} (h:St B Z E O fv fs st w):O<w.heap.size/\Z<=O:=by
 obtain ⟨c,d,b⟩:=h.outs
 exact ⟨Zn b.box,b.lo⟩
def Km (w:World) (c:Int) (v:Value):Prop:=(c=0/\v= .nilIface)\/(c≠0/\J6 w c v)
def Y6 (B Z E O:Nat) (fv:Value) (fs:List FN) (r:Int×Xs) (w:World) (e:Ending) (w':World):Prop:=
 (∃v,e= .returned v/\Km w' r.1 v)/\FrH Z E O w w'/\St B Z E O fv fs r.2 w'
structure HandOk (B Z E O D:Nat) (fv:Value) (fs:List FN) (w0:World) (H:FuncId) (caps:Array Value) (h:X6):Prop where
 enter:∀x w,(callFunc H (#[x]++caps)).run Tryz.prog w= .ok (.enter H (#[x]++caps)) w
 le:∀ns st,okB ns=true->(h ns st).2.1<=st.1
 says:∀w,FrH Z E O w0 w->∀st x ns,st.1<=D->St B Z E O fv fs st w->Rep w ns x->Calls Tryz.prog H (#[x]++caps) w (Y6 B Z E O fv fs (h ns st) w)
theorem HandOk.on {B Z E O D:Nat} {fv:Value} {fs:List FN} {w0 w1:World} {H:FuncId} {caps:Array Value} {h:X6} (k:HandOk B Z E O D fv fs w0 H caps h) (hf:FrH Z E O w0 w1):HandOk B Z E O D fv fs w1 H caps h:=
 ⟨k.enter,k.le,fun w hw=>k.says w (hf.trans hw)⟩


theorem Xgs {P:Program} {t:TypeId} {z:Option Value} {s b:Nat} (h:(P.info? t).map (fun i=>(i.zero,i.size,i.bytes))=some (z,s,b)):∃i,P.info? t=some i/\i.zero=z/\i.size=s/\i.bytes=b:=by
 cases hi:P.info? t with
 |none=>simp[hi] at h
 |some i=>simp[hi] at h;exact ⟨i,rfl,h.1,h.2.1,h.2.2⟩
theorem Xnw (k:Nat):Builtin.zeroCells (Value.cells .nilIface) k=(List.replicate k Value.nilIface).toArray:=by
 unfold Builtin.zeroCells
 have e:Value.cells .nilIface= #[.nilIface]:=rfl
 rw[e]
 apply Array.ext
 ·simp
 ·intro i b c
  simp[Nat.mod_one]
structure AppFr (Z:Nat) (w w':World):Prop where
 os:w'.os=w.os
 tape:w'.tape=w.tape
 output:w'.output=w.output
 size:w.heap.size<=w'.heap.size
 block:∀k,k<Z->w'.heap[k]? =w.heap[k]?
 other:∀(k:Nat) (cs:Array Value) (t:TypeId) (z:Nat×Nat),t≠52->w.heap[k]? =some (Obj.cells cs t z)->w'.heap[k]? =some (Obj.cells cs t z)
 cell:∀b o v,v≠ .nilIface->w.cell? ⟨b,o,none⟩=some v->w'.cell? ⟨b,o,none⟩=some v
theorem Xnx:(Tryz.prog.info? 52).map (fun i=>(i.zero,i.size,i.bytes))=some (some .nilIface,1,16):=by kernel_rfl
theorem Xny (Z:Nat) (w:World) (o:Obj) (hZ:Z<=w.heap.size):AppFr Z w (w.drew.alloc o):=
 ⟨rfl,rfl,rfl,by simp,fun k c=>Go.heap_alloc_old w.drew o (by simpa using Nat.lt_of_lt_of_le c hZ),fun k cs t z _ h=>by
   have c:k<w.drew.heap.size:=by simpa using Zn h
   exact (Go.heap_alloc_old w.drew o c).trans h,fun b o' v _ h=>by
   have c:b<w.drew.heap.size:=by simpa using X7 h
   exact (World.cell?_of_block (w:=w.drew) (a:=⟨b,o',none⟩) (Go.heap_alloc_old w.drew o c)).trans h⟩
theorem Xt2 {Z:Nat} {w:World} {sv:Value} {xs:List Value} (h:OutRow Z w sv xs) (a:Addr) (c:Nat) (x:Value) (ty:TypeId) (hx:w.cell? (a.add 0)=some x) (h1:x.oneCell'=true) (hlen:xs.length<=100000) (hZ:Z<=w.heap.size):
  ∃v' w',(Builtin.append_ #[58,58] ty #[sv, .slice (some a) 1 c]).run Tryz.prog w= .ok v' w'/\OutRow Z w' v' (xs++ [x])/\AppFr Z w w':=by
 obtain ⟨y,p,C,l,D⟩:=Xgs Xnx
 have q: [x].length=1 *y.size:=by rw[l];rfl
 have d:∀j v,[x][j]? =some v->w.cell? (a.add j)=some v:=by
  intro j v f
  match j,f with
  |0,f=>simp at f;subst f;exact hx
  |j+1,f=>simp at f
 rcases h with ⟨rfl,rfl⟩|⟨g,cap,rfl,hg,hh,hnc,hcm,hc0⟩
 ·have B:=run_append_nil (P:=Tryz.prog) w 58 ty 52 y .nilIface Tryz.underlying58 p C a 1 c [x] q d (by omega) (by omega) (by rw[D];omega)
  refine ⟨_,_,B, .inr ⟨w.heap.size,grownCap w 1 0 52,rfl,hZ, ?_, ?_, ?_, ?_⟩,Xny Z w _ hZ⟩
  ·rw[Xnw]
   exact (Go.heap_alloc_new w.drew _).trans (by simp)
  ·have:=grownCap_ge w 1 0 52;simpa using this
  ·exact grownCap_le_maxLen w 1 0 52 (by unfold maxLen;omega)
  ·have:=grownCap_ge w 1 0 52;omega
 ·by_cases hroom:xs.length+1<=cap
  ·have J:(xs++List.replicate (cap-xs.length) Value.nilIface).toArray.size=cap:=by simp;omega
   have B:=run_append_room (P:=Tryz.prog) w 58 ty 52 y Tryz.underlying58 p g xs.length cap _ hh a 1 c [x] q d (by intro u M;simp at M;subst M;exact h1) hroom (by rw[l,J];simpa using hroom)
   have F:((xs++List.replicate (cap-xs.length) Value.nilIface).toArray.toList.take (xs.length *y.size)++ [x]++(xs++List.replicate (cap-xs.length) Value.nilIface).toArray.toList.drop (xs.length *y.size+ [x].length)).toArray=((xs++ [x])++List.replicate (cap-(xs++ [x]).length) Value.nilIface).toArray:=by
    rw[l]
    have R:(xs++List.replicate (cap-xs.length) Value.nilIface).take (xs.length *1)=xs:=by rw[Nat.mul_one,List.take_left]
    have L:(xs++List.replicate (cap-xs.length) Value.nilIface).drop (xs.length *1+ [x].length)=List.replicate (cap-(xs++ [x]).length) Value.nilIface:=by
     have S:xs.length *1+ [x].length=xs.length+1:=by simp
     have T:(xs++ [x]).length=xs.length+1:=by simp
     rw[S,T,List.drop_append,List.drop_eq_nil_of_le (by omega),List.nil_append,List.drop_replicate]
     congr 1
     omega
    simp only[List.toList_toArray,R,L]
   rw[F] at B
   refine ⟨_,_,B, .inr ⟨g,cap, ?_,hg,setRow_heap w g _ _ _ _ hh,by simpa using hroom,hcm,hc0⟩,⟨rfl,rfl,rfl,by simp,fun k hk=>setRow_other w g k _ (by omega),fun k cs t z ht hk=> ?_,fun b o v f hb=> ?_⟩⟩
   ·simp
   ·rw[setRow_other w g k _ (fun e=>ht (by subst e;rw[hh] at hk;injection hk with hk;injection hk with _ L _;exact L.symm))]
    exact hk
   ·by_cases e:b=g
    ·subst e
     rw[Xw (setRow_heap w b _ _ _ _ hh)]
     rw[Xw hh] at hb
     rw[List.getElem?_toArray] at hb|-
     by_cases ho:o<xs.length
     ·rw[List.getElem?_append_left ho] at hb
      rw[List.append_assoc,List.getElem?_append_left ho]
      exact hb
     ·rw[List.getElem?_append_right (by omega)] at hb
      rw[List.getElem?_replicate] at hb
      split at hb
      ·injection hb with hb;exact absurd hb.symm f
      ·cases hb
    ·exact (World.cell?_of_block (w:=w) (a:=⟨b,o,none⟩) (setRow_other w g b _ e)).trans hb
  ·have V:cap=xs.length:=by omega
   have s:∀j v,xs[j]? =some v->w.cell? ((⟨g,0,none⟩:Addr).add j)=some v:=by
    intro j v f
    have G:(⟨g,0,none⟩:Addr).add j=⟨g,j,none⟩:=by unfold Addr.add;split<;>simp_all
    rw[G,Xw hh,List.getElem?_toArray]
    have X:j<xs.length:=by
     rcases Nat.lt_or_ge j xs.length with h|h
     ·exact h
     ·rw[List.getElem?_eq_none h] at f;cases f
    rw[List.getElem?_append_left X]
    exact f
   have B:=run_append_grow (P:=Tryz.prog) w 58 ty 52 y .nilIface Tryz.underlying58 p C ⟨g,0,none⟩ xs.length cap xs (by rw[l];simp) s a 1 c [x] q d (by omega) (by omega) (growslice_fits (by omega) (by rw[D];omega))
   refine ⟨_,_,B, .inr ⟨w.heap.size,grownCap w (xs.length+1) cap 52, ?_,hZ, ?_, ?_, ?_, ?_⟩,Xny Z w _ hZ⟩
   ·simp
   ·rw[Xnw]
    exact (Go.heap_alloc_new w.drew _).trans (by simp)
   ·have:=grownCap_ge w (xs.length+1) cap 52;simpa using this
   ·exact grownCap_le_maxLen w (xs.length+1) cap 52 (by unfold maxLen;omega)
   ·have:=grownCap_ge w (xs.length+1) cap 52;omega


theorem Xdu {ops:Array Oper} {rest:List Oper} {o:Oper} {a:Act} {Q:Exit->Act->World->Prop} {w:World} (hgd:o.guard=none) (s x:Operand)
  (ho:o.op= .call {callee:= .builtin .append,args:= #[s,x],argTypes:= #[58,58]}) {Z:Nat} {sv:Value} {xs:List Value} (hs:a.eval s=sv) (hrow:OutRow Z w sv xs) (ad:Addr) (c:Nat) (y:Value)
  (hx:a.eval x= .slice (some ad) 1 c) (hy:w.cell? (ad.add 0)=some y) (h1:y.oneCell'=true) (hlen:xs.length<=100000) (hZ:Z<=w.heap.size)
  (h:∀v' w',OutRow Z w' v' (xs++ [y])->AppFr Z w w'->wpList Tryz.prog ops Q rest (a.put o.dst v') w'):wpList Tryz.prog ops Q (o::rest) a w:=by
 refine wpList_plain hgd fun K hK=> ?_
 obtain ⟨v',w',b,d,f⟩:=Xt2 (Z:=Z) hrow ad c y o.type hy h1 hlen hZ
 unfold Oper.wp execOp
 simp only[ho,resolve,invoke,builtin,Sem.run_bind,Sem.run_pure,Result.andThen_ok,List.map_toArray,List.map_cons,List.map_nil,hs,hx,b]
 exact hK _ _ (h v' w' d f)
theorem Xe5 (t:TypeId) (y:Value):(Value.iface t y).oneCell'=true:=rfl
theorem Xod {xs:List Value} {x:Value} {outs:List (List VN)} {ns:List VN} {w:World} (hl:xs.length=outs.length) (h:∀j,j<outs.length->Rep w (Xn outs j) (xs.getD j undef)) (hx:Rep w ns x):∀j,j<(outs++ [ns]).length->Rep w (Xn (outs++ [ns]) j) ((xs++ [x]).getD j undef):=by
 intro j c
 unfold Xn
 rw[List.getD_eq_getElem?_getD,List.getD_eq_getElem?_getD]
 by_cases e:j<outs.length
 ·rw[List.getElem?_append_left e,List.getElem?_append_left (by omega)]
  have:=h j e
  unfold Xn at this
  rwa [List.getD_eq_getElem?_getD,List.getD_eq_getElem?_getD] at this
 ·have b:j=outs.length:=by simp at c;omega
  subst b
  rw[List.getElem?_append_right (Nat.le_refl _),<-hl,List.getElem?_append_right (Nat.le_refl _)]
  simpa using hx
theorem Xb9 {w:World} {b i:Nat} {cs:Array Value} {T:TypeId} {z:Nat×Nat} (h:w.heap[b]? =some (.cells cs T z)) (u:Value):(w.setCell ⟨b,i,none⟩ u).heap[b]? =some (.cells (cs.setIfInBounds i u) T z):=by
 have c:=Zn h
 simp[World.setCell,Array.getElem?_modify,h]
theorem St.hBZ {B Z E O:Nat} {fv:Value} {fs:List FN} {st:Xs} {w:World} (h:St B Z E O fv fs st w):B<Z:=Nat.lt_of_le_of_lt h.ev.hBE h.hEZ
theorem Xwz {B Z E O:Nat} {fv:Value} {fs:List FN} {st:Xs} {w W1 w2:World} {sv sv' x:Value} {xs:List Value} {ns:List VN} (hst:St B Z E O fv fs st w) (ho:OutsAt Z E O w st.2 sv xs) (hrep:Rep w ns x) (h1:Below w.heap.size w W1) (hr:OutRow Z w2 sv' (xs++ [x])) (hf:AppFr Z W1 w2) (hlt:st.2.length≠40):
  FrH Z E O w (w2.setCell ⟨O,0,none⟩ sv')/\St B Z E O fv fs (st.1,st.2++ [ns]) (w2.setCell ⟨O,0,none⟩ sv'):=by
 have q:=Zn ho.box
 have s:=ho.lo
 have y:=hst.hZ
 have f:=hst.hEZ
 have hBZ:=hst.hBZ
 have z:W1.heap[O]? =some (.cells #[sv] 58 (0,0)):=(h1.block O q).trans ho.box
 have t:w2.heap[O]? =some (.cells #[sv] 58 (0,0)):=hf.other O _ _ _ (by decide) z
 have C:(w2.setCell ⟨O,0,none⟩ sv').heap[O]? =some (.cells #[sv'] 58 (0,0)):=by
  have:=Xb9 (i:=0) t sv'
  simpa using this
 have d:∀k,k≠O->(w2.setCell ⟨O,0,none⟩ sv').heap[k]? =w2.heap[k]? :=fun k d=>Below.heap_setCell _ _ _ _ d
 have p:FrH Z E O w (w2.setCell ⟨O,0,none⟩ sv'):=by
  refine ⟨hf.os.trans h1.os,hf.tape.trans h1.tape,hf.output.trans h1.output, ?_,fun k hkZ hkE=> ?_,fun b o v hb1 hb2 hv hc=> ?_⟩
  ·have:=h1.size;have:=hf.size;simp;omega
  ·exact (d k (by omega)).trans ((hf.block k hkZ).trans (h1.block k (by omega)))
  ·have c1:W1.cell? ⟨b,o,none⟩=some v:=(World.cell?_of_block (w:=w) (a:=⟨b,o,none⟩) (h1.block b (X7 hc))).trans hc
   exact (World.cell?_of_block (w:=w2) (a:=⟨b,o,none⟩) (d b hb2)).trans (hf.cell b o v hv c1)
 have c:Below B w (w2.setCell ⟨O,0,none⟩ sv'):=p.below hst.ev.hBE (by omega)
 have l:=hst.reads p
 refine ⟨p,⟨?_,hst.ev.nodes.below c,hst.ev.hBE,hst.ev.errs.below c⟩,⟨sv',xs++ [x],C, ?_, ?_, ?_,s,by have:=ho.few;simp;omega⟩,f,Nat.le_trans y p.size⟩
 ·exact (d E (by omega)).trans ((hf.block E f).trans ((h1.block E (by omega)).trans hst.ev.blk))
 ·rcases hr with ⟨e1,e2⟩|⟨g,cap,e,hg,hh,rest⟩
  ·exact .inl ⟨e1,e2⟩
  ·refine .inr ⟨g,cap,e,hg,(d g (fun e=> ?_)).trans hh,rest⟩
   subst e
   rw[t] at hh
   injection hh with hh
   injection hh with _ e2 _
   revert e2
   decide
 ·simp[ho.len]
 ·exact Xod ho.len (fun j hj=>(ho.rep j hj).reads l) (hrep.reads l)
theorem Xw0 (B Z E O D:Nat) (fv:Value) (fs:List FN) (w0:World):HandOk B Z E O D fv fs w0 64 #[.pointer (some ⟨O,0,none⟩)] Xl:=by
 refine ⟨fun x w=>by kernel_rfl,fun ns st _=>by unfold Xl;split<;>exact Nat.le_refl _,fun w _ st x ns _ hst hrep=> ?_⟩
 show Calls Tryz.prog 64 #[x, .pointer (some ⟨O,0,none⟩)] w _
 obtain ⟨sv,xs,l⟩:=hst.outs
 have G:=Xa l
 have d:=Xa hst
 have HR:=Xa hrep
 obtain ⟨a,c,e⟩:=l.row.slice
 have b:=l.len
 have j:=l.few
 have k1:w.cell? ⟨O,0,none⟩=some sv:=Xw l.box 0
 have k2:w.frozen? ⟨O,0,none⟩=false:=by simp[World.frozen?,l.box]
 obtain ⟨M,J⟩:∃M,xs.length=M:=⟨_,rfl⟩
 have HM:=Xa J
 rw[J] at e b
 subst e
 obtain ⟨F,y,rfl⟩:=hrep.iface
 clear l hst hrep J
 by_cases h40:M=40
 ·have L:Hid (Xl ns st=(3,st)):=by unfold Hid Xl;rw[if_pos (by omega)]
  obtain ⟨a1,a0,p1,p2,p3,p4,p5⟩:=d.out.ev.errs.now.outs
  have P:Hid (Rsn w 3 257 (.pointer (some a1))):=⟨a1,a0,rfl,rfl,p2,⟨fun e=>absurd e (by decide),fun e=>absurd e p3⟩,p4,p5⟩
  have ba:(M:Int)=40:=by omega
  rw[L.out]
  clear p2 p3 p4 p5 b j
  subst h40
  go_enter Tryz.func64,Tryz.ntmps64
  go_wp2_with fail
  go_ret
  exact ⟨⟨_,rfl, .inr ⟨(show (3:Int)≠0 by decide),_,_,rfl,P.out⟩⟩,FrH.refl _ _ _ _,d.out⟩
 ·have L:Hid (Xl ns st=(0,(st.1,st.2++ [ns]))):=by unfold Hid Xl;rw[if_neg (by omega)]
  have bb:¬(M:Int)=40:=by omega
  rw[L.out]
  have hO:=d.out.hO
  have R:=hO.1
  have bc:=hO.2
  have HZ:=Xa d.out.hZ
  have S:=Xa d.out.hEZ
  clear hO
  obtain ⟨o,g⟩:∃o,w.alloc (.cells #[.iface F y] 52)=o:=⟨_,rfl⟩
  have p:Hid (Below w.heap.size w o):=by rw[Hid,<-g];exact (Below.refl _ _).alloc (Nat.le_refl _) _
  have k3:Hid (o.cell? ((⟨w.heap.size,0,none⟩:Addr).add 0)=some (.iface F y)):=by rw[Hid,<-g];simp[Addr.add]
  have T:Hid (OutRow Z o (.slice a M c) xs):=G.out.row.keep S.out (.of_below p.out)
  have t:o.heap.size=w.heap.size+1:=by rw[<-g];simp
  have HW:=Xa g
  have V:=Xa t
  have X:Hid (o.heap[O]? =some (.cells #[.slice a M c] 58 (0,0))):=(p.out.block O R).trans G.out.box
  have HL:Hid (M=st.2.length/\M<=39):=⟨b,by omega⟩
  clear b t j
  go_enter Tryz.func64,Tryz.ntmps64
  go_wp2_with (at_builtin;refine Xdu (Z:=Z) (xs:=xs) rfl _ _ rfl rfl T.out ⟨w.heap.size,0,none⟩ 1 (.iface F y) rfl k3.out (Xe5 _ _) (by have:=HM.out;have:=HL.out.2;omega) (by have:=HZ.out;have:=V.out;omega) ?_)
  intro bd Y q s
  have z:Hid (Y.heap[O]? =some (.cells #[.slice a M c] 58 (0,0))):=s.other O _ _ _ (by decide) X.out
  have l1:Y.cell? ⟨O,0,none⟩=some (.slice a M c):=Xw z.out 0
  have l2:Y.frozen? ⟨O,0,none⟩=false:=by simp[World.frozen?,z.out]
  have f:=Xa (Xwz d.out G.out HR.out p.out q s (by have:=HL.out;omega))
  obtain ⟨a2,c2,e2⟩:=q.slice
  obtain ⟨M2,C⟩:∃M2,(xs++ [Value.iface F y]).length=M2:=⟨_,rfl⟩
  rw[C] at e2
  subst e2
  clear q s C
  go_wp2_with fail
  go_ret
  exact ⟨⟨_,rfl, .inl ⟨rfl,rfl⟩⟩,f.out.1,f.out.2⟩


theorem Wn (B:Nat) (w:World) (n:Int):TreeAt B w 1 (.mk 3 n ByteArray.empty [] []) (.iface 114 (.agg #[.int .i64 n])):=Or.inr (Or.inr (Or.inl ⟨rfl,rfl,rfl,rfl,rfl⟩))
theorem Xt0 (us vs:List VN) (h1:okB us=true) (h2:okB vs=true) (lo B lo' B':Nat) (hlo:lo<=B) (hlo':lo'<=B') (x y:Value) (w:World) (hx:ValG lo B w us us.length (us.length-1) x) (hy:ValG lo' B' w vs vs.length (vs.length-1) y) (hB:B<=w.heap.size) (hB':B'<=w.heap.size) (hE:Errs2 w) (hk3:(Xd us).kind=3) (hk3':(Xd vs).kind=3):
  Calls Tryz.prog 175 #[x,y] w fun e w'=>Q2 (Vz us vs) (Kg us vs) e w'/\Below w.heap.size w w':=by
 obtain ⟨tx,vx,Fx,rfl,S⟩:=Qc hx
 obtain ⟨ty,vy,Fy,rfl,T⟩:=Qc hy
 have Y:=Xa S
 have Z:=Xa T
 have HE:=Xa hE
 have m1:=S.meth
 have e1:=S.enter
 have m2:=T.meth
 have e2:=T.enter
 clear S T hE
 have bd:((Xb us (us.length-1)).kind !=(Xb vs (vs.length-1)).kind)=false:=by
  have:(Xb us (us.length-1)).kind=(Xb vs (vs.length-1)).kind:=hk3.trans hk3'.symm
  simpa using this
 have be:=V9
 have bf:=Xi5
 have bg:=Xf0
 obtain ⟨p1,_,_,_⟩:=Xm h1
 obtain ⟨p2,_,_,_⟩:=Xm h2
 obtain ⟨f,hf⟩:∃f,us.length=f+1:=⟨us.length-1,by omega⟩
 obtain ⟨C,o⟩:∃C,vs.length=C+1:=⟨vs.length-1,by omega⟩
 have n1:=Xak h1 hk3
 have n2:=Xak h2 hk3'
 have V:=Xa (Xoh h1 h2 ⟨hk3,hk3'⟩)
 have p:Hid (Gr us vs=Xr 3 ((Xd us).n-(Xd vs).n) ByteArray.empty):=rfl
 obtain ⟨b,q⟩:∃b,(Xd us).n=b:=⟨_,rfl⟩
 obtain ⟨c,s⟩:∃c,(Xd vs).n=c:=⟨_,rfl⟩
 rw[q] at n1 p
 rw[s] at n2 p
 have ex:vx= .agg #[.int .i64 b]/\tx=114:=by
  have d:=hx
  rw[hf,show f+1-1=f by omega] at d
  have hr:Xb us f=Xd us:=by unfold Xd;rw[hf];rfl
  unfold ValG at d
  rw[hr,q] at d
  rcases d with ⟨k,e⟩|⟨k,e⟩|⟨k,e⟩|⟨k,e⟩|⟨k,it,e,hi⟩|⟨k,ks,it,e,hs,hi⟩
  case inr.inr.inl=>cases e;exact ⟨rfl,rfl⟩
  all_goals exact absurd k (by omega)
 have ey:vy= .agg #[.int .i64 c]/\ty=114:=by
  have g:=hy
  rw[o,show C+1-1=C by omega] at g
  have hr:Xb vs C=Xd vs:=by unfold Xd;rw[o];rfl
  unfold ValG at g
  rw[hr,s] at g
  rcases g with ⟨k,e⟩|⟨k,e⟩|⟨k,e⟩|⟨k,e⟩|⟨k,it,e,hi⟩|⟨k,ks,it,e,hs,hi⟩
  case inr.inr.inl=>cases e;exact ⟨rfl,rfl⟩
  all_goals exact absurd k (by omega)
 obtain ⟨rfl,rfl⟩:=ex
 obtain ⟨rfl,rfl⟩:=ey
 obtain ⟨bh,bi⟩:=n1
 obtain ⟨bj,bk⟩:=n2
 have ba:=Xa (Xdq (b-c) (by omega) (by omega))
 clear hx hy q s p1 p2 hf o
 go_enter Tryz.func175,Tryz.ntmps175
 go_wp2_with fail
 refine (Y.out.says _).mono ?_
 rintro e w1 ⟨rfl,D⟩
 have F:=Xa D
 clear D
 go_wp2_with fail
 refine (Z.out.says _).mono ?_
 rintro e w2 ⟨rfl,G⟩
 have t:=Xa (F.out.trans (G.mono F.out.size))
 have J:=Xa ((HE.out.below t.out).below ((Below.refl _ _).alloc (Nat.le_refl _) (.cells #[.int .i64 b] 114)))
 clear G
 go_wp2_with fail
 obtain ⟨W,X⟩:∃W,w2.alloc (.cells #[.int .i64 b] 114)=W:=⟨_,rfl⟩
 have c0:W.cell? ⟨w2.heap.size,0,none⟩=some (.int .i64 b):=by rw[<-X];simp
 have bb:Hid (Below w.heap.size w W):=by rw[Hid,<-X];exact t.out.alloc t.out.size _
 rw[X] at J|-
 have L:=Xa (J.out.below (w':=W.drew) (W9 rfl rfl rfl rfl))
 have j:Hid (Below w.heap.size w W.drew):=bb.out.drew
 clear X
 have M:Hid (IntKind.i64.wrap (b-c)=b-c):=by
  unfold Hid
  simp[IntKind.wrap,IntKind.signed,IntKind.bits]
  omega
 have l:Hid (Gr us vs=Xr 3 (IntKind.i64.wrap (b-c)) ByteArray.empty):=by rw[Hid,M.out];exact p.out
 have P:Hid (∀i,i<(Xr 3 (IntKind.i64.wrap (b-c)) ByteArray.empty).length->Fits (Xb (Xr 3 (IntKind.i64.wrap (b-c)) ByteArray.empty) i)):=by rw[Hid,M.out];exact ba.out.2
 cases ok:okB (Xr 3 (IntKind.i64.wrap (b-c)) ByteArray.empty)
 ·go_region_law (refine Zu (by rfl) 142 _ _ (by rfl) (.iface 114 (.agg #[.int .i64 (IntKind.i64.wrap (b-c))])) (by rfl) (Qo _) (Jy 1 (.mk 3 (IntKind.i64.wrap (b-c)) ByteArray.empty [] []) _ (Xr 3 (IntKind.i64.wrap (b-c)) ByteArray.empty) _ (Wn _ _ _) (Gj _) (by simp[Xr]) P.out L.out ok) ?_;rintro e w3 ⟨te,xe,rfl,bc,R⟩;refine ⟨_,rfl, ?_⟩)
  all_goals
   have z:=Xa (j.out.trans (R.mono j.out.size))
   clear R
   go_wp2_with fail
   go_ret2
   exact ⟨Or.inr ⟨by rw[V.out.2,l.out,ok];rfl,_,rfl,by rw[V.out.1,l.out,ok];exact ⟨te,xe,rfl,bc⟩⟩,z.out⟩
 ·go_region_law (refine Zu (by rfl) 142 _ _ (by rfl) (.iface 114 (.agg #[.int .i64 (IntKind.i64.wrap (b-c))])) (by rfl) (Qo _) (Jf 1 (.mk 3 (IntKind.i64.wrap (b-c)) ByteArray.empty [] []) _ (Xr 3 (IntKind.i64.wrap (b-c)) ByteArray.empty) _ (Wn _ _ _) (Gj _) (by simp[Xr]) P.out L.out ok) ?_;rintro e w3 ⟨rfl,R⟩;refine ⟨_,rfl, ?_⟩)
  all_goals
   have z:=Xa (j.out.trans (R.mono j.out.size))
   clear R
   go_wp2_with fail
   go_ret2
   exact ⟨Or.inl ⟨by rw[V.out.1,l.out,ok];rfl,1,_,_,_,rfl,Wn _ _ _,by rw[V.out.2,l.out,ok];exact Gj _⟩,z.out⟩


theorem X1b (us vs:List VN) (h1:okB us=true) (h2:okB vs=true) (lo B lo' B':Nat) (hlo:lo<=B) (hlo':lo'<=B') (x y:Value) (w:World) (hx:ValG lo B w us us.length (us.length-1) x) (hy:ValG lo' B' w vs vs.length (vs.length-1) y) (hB:B<=w.heap.size) (hB':B'<=w.heap.size) (hE:Errs2 w) (hk3:(Xd us).kind=3) (hk3':(Xd vs).kind=3):
  Calls Tryz.prog 174 #[x,y] w fun e w'=>Q2 (Qg us vs) (Zt us vs) e w'/\Below w.heap.size w w':=by
 obtain ⟨tx,vx,Fx,rfl,kx⟩:=Qc hx
 obtain ⟨ty,vy,Fy,rfl,ky⟩:=Qc hy
 have C:=Xa kx
 have D:=Xa ky
 have HE:=Xa hE
 have m1:=kx.meth
 have e1:=kx.enter
 have m2:=ky.meth
 have e2:=ky.enter
 clear kx ky hE
 have bd:((Xb us (us.length-1)).kind !=(Xb vs (vs.length-1)).kind)=false:=by
  have:(Xb us (us.length-1)).kind=(Xb vs (vs.length-1)).kind:=hk3.trans hk3'.symm
  simpa using this
 have be:=V9
 have bf:=Xi5
 have bg:=Xf0
 obtain ⟨p1,_,_,_⟩:=Xm h1
 obtain ⟨p2,_,_,_⟩:=Xm h2
 obtain ⟨f,hf⟩:∃f,us.length=f+1:=⟨us.length-1,by omega⟩
 obtain ⟨F,o⟩:∃F,vs.length=F+1:=⟨vs.length-1,by omega⟩
 have n1:=Xak h1 hk3
 have n2:=Xak h2 hk3'
 have G:=Xa (G9 h1 h2 (by omega) (by omega) (by omega))
 rw[Xsz hk3] at G
 have bh : ((Xb us (us.length - 1)).kind == 1) = false := by
  have : ¬ (Xb us (us.length - 1)).kind = 1 := by have : (Xb us (us.length - 1)).kind = 3 := hk3;omega
  simpa using this
 have bi : ((Xb vs (vs.length - 1)).kind == 1) = false := by
  have : ¬ (Xb vs (vs.length - 1)).kind = 1 := by have : (Xb vs (vs.length - 1)).kind = 3 := hk3';omega
  simpa using this
 have p:Hid (Xi6 us vs=Xr 3 ((Xd us).n+(Xd vs).n) ByteArray.empty):=rfl
 obtain ⟨b,q⟩:∃b,(Xd us).n=b:=⟨_,rfl⟩
 obtain ⟨c,s⟩:∃c,(Xd vs).n=c:=⟨_,rfl⟩
 rw[q] at n1 p
 rw[s] at n2 p
 have ex:vx= .agg #[.int .i64 b]/\tx=114:=by
  have d:=hx
  rw[hf,show f+1-1=f by omega] at d
  have hr:Xb us f=Xd us:=by unfold Xd;rw[hf];rfl
  unfold ValG at d
  rw[hr,q] at d
  rcases d with ⟨k,e⟩|⟨k,e⟩|⟨k,e⟩|⟨k,e⟩|⟨k,it,e,hi⟩|⟨k,ks,it,e,hs,hi⟩
  case inr.inr.inl=>cases e;exact ⟨rfl,rfl⟩
  all_goals exact absurd k (by omega)
 have ey:vy= .agg #[.int .i64 c]/\ty=114:=by
  have g:=hy
  rw[o,show F+1-1=F by omega] at g
  have hr:Xb vs F=Xd vs:=by unfold Xd;rw[o];rfl
  unfold ValG at g
  rw[hr,s] at g
  rcases g with ⟨k,e⟩|⟨k,e⟩|⟨k,e⟩|⟨k,e⟩|⟨k,it,e,hi⟩|⟨k,ks,it,e,hs,hi⟩
  case inr.inr.inl=>cases e;exact ⟨rfl,rfl⟩
  all_goals exact absurd k (by omega)
 obtain ⟨rfl,rfl⟩:=ex
 obtain ⟨rfl,rfl⟩:=ey
 obtain ⟨bj,bk⟩:=n1
 obtain ⟨bl,bm⟩:=n2
 have ba:=Xa (Xdq (b+c) (by omega) (by omega))
 clear hx hy q s p1 p2 hf o
 go_enter Tryz.func174,Tryz.ntmps174
 go_wp2_with fail
 refine (C.out.says _).mono ?_
 rintro e w1 ⟨rfl,J⟩
 have L:=Xa J
 clear J
 go_wp2_with fail
 refine (D.out.says _).mono ?_
 rintro e wa ⟨rfl,M⟩
 have P:=Xa (L.out.trans (M.mono L.out.size))
 clear M
 go_wp2_with fail
 refine (C.out.says _).mono ?_
 rintro e wb ⟨rfl,R⟩
 have S:=Xa (P.out.trans (R.mono P.out.size))
 clear R
 go_wp2_with fail
 refine (D.out.says _).mono ?_
 rintro e w2 ⟨rfl,T⟩
 have t:=Xa (S.out.trans (T.mono S.out.size))
 have V:=Xa ((HE.out.below t.out).below ((Below.refl _ _).alloc (Nat.le_refl _) (.cells #[.int .i64 b] 114)))
 clear T
 go_wp2_with fail
 obtain ⟨W,hW⟩:∃W,w2.alloc (.cells #[.int .i64 b] 114)=W:=⟨_,rfl⟩
 have c0:W.cell? ⟨w2.heap.size,0,none⟩=some (.int .i64 b):=by rw[<-hW];simp
 have bb:Hid (Below w.heap.size w W):=by rw[Hid,<-hW];exact t.out.alloc t.out.size _
 rw[hW] at V|-
 have X:=Xa (V.out.below (w':=W.drew) (W9 rfl rfl rfl rfl))
 have j:Hid (Below w.heap.size w W.drew):=bb.out.drew
 clear hW
 have Y:Hid (IntKind.i64.wrap (b+c)=b+c):=by
  unfold Hid
  simp[IntKind.wrap,IntKind.signed,IntKind.bits]
  omega
 have l:Hid (Xi6 us vs=Xr 3 (IntKind.i64.wrap (b+c)) ByteArray.empty):=by rw[Hid,Y.out];exact p.out
 have Z:Hid (∀i,i<(Xr 3 (IntKind.i64.wrap (b+c)) ByteArray.empty).length->Fits (Xb (Xr 3 (IntKind.i64.wrap (b+c)) ByteArray.empty) i)):=by rw[Hid,Y.out];exact ba.out.2
 cases ok:okB (Xr 3 (IntKind.i64.wrap (b+c)) ByteArray.empty)
 ·go_region_law (refine Zu (by rfl) 142 _ _ (by rfl) (.iface 114 (.agg #[.int .i64 (IntKind.i64.wrap (b+c))])) (by rfl) (Qo _) (Jy 1 (.mk 3 (IntKind.i64.wrap (b+c)) ByteArray.empty [] []) _ (Xr 3 (IntKind.i64.wrap (b+c)) ByteArray.empty) _ (Wn _ _ _) (Gj _) (by simp[Xr]) Z.out X.out ok) ?_;rintro e w3 ⟨te,xe,rfl,bc,hq⟩;refine ⟨_,rfl, ?_⟩)
  all_goals
   have z:=Xa (j.out.trans (hq.mono j.out.size))
   clear hq
   go_wp2_with fail
   go_ret2
   exact ⟨Or.inr ⟨by rw[G.out.2,l.out,ok];rfl,_,rfl,by rw[G.out.1,l.out,ok];exact ⟨te,xe,rfl,bc⟩⟩,z.out⟩
 ·go_region_law (refine Zu (by rfl) 142 _ _ (by rfl) (.iface 114 (.agg #[.int .i64 (IntKind.i64.wrap (b+c))])) (by rfl) (Qo _) (Jf 1 (.mk 3 (IntKind.i64.wrap (b+c)) ByteArray.empty [] []) _ (Xr 3 (IntKind.i64.wrap (b+c)) ByteArray.empty) _ (Wn _ _ _) (Gj _) (by simp[Xr]) Z.out X.out ok) ?_;rintro e w3 ⟨rfl,hq⟩;refine ⟨_,rfl, ?_⟩)
  all_goals
   have z:=Xa (j.out.trans (hq.mono j.out.size))
   clear hq
   go_wp2_with fail
   go_ret2
   exact ⟨Or.inl ⟨by rw[G.out.1,l.out,ok];rfl,1,_,_,_,rfl,Wn _ _ _,by rw[G.out.2,l.out,ok];exact Gj _⟩,z.out⟩


theorem Xhz {vs:List VN} (h:okB vs=true) {lo B:Nat} {w w':World} {v:Value} (hlo:lo<=B) (hB:B<=w'.heap.size) (hk:∀k,k<B->w'.heap[k]? =w.heap[k]?) (hv:ValG lo B w vs vs.length (vs.length-1) v):
  TreeAt w'.heap.size w' vs.length (Xt vs vs.length (vs.length-1)) v/\Yb vs.length (Xt vs vs.length (vs.length-1)) 0=vs:=by
 obtain ⟨b,c,_,d⟩:=Xm h
 refine ⟨TreeAt.keep hk hB (ValG.tree hlo c d b.2 (by omega) hv), ?_⟩
 rw[(G0 h (by omega) (by omega)).1,Xew h]
theorem Xs4 (us vs:List VN) (h1:okB us=true) (h2:okB vs=true) (lo B lo' B':Nat) (hlo:lo<=B) (hlo':lo'<=B') (x y:Value) (w:World) (hx:ValG lo B w us us.length (us.length-1) x) (hy:ValG lo' B' w vs vs.length (vs.length-1) y) (hB:B<=w.heap.size) (hB':B'<=w.heap.size) (hE:Errs2 w) (hk:(Xd us).kind=1):
  Calls Tryz.prog 174 #[x,y] w fun e w'=>Q2 (Qg us vs) (Zt us vs) e w'/\Below w.heap.size w w':=by
 obtain ⟨q,s,t,rfl,d⟩:=Qc hx
 obtain ⟨z,C,D,rfl,f⟩:=Qc hy
 have g:=Xa d
 have o:=Xa f
 have F:=Xa hE
 have G:=d.meth
 have J:=d.enter
 have L:=f.meth
 have M:=f.enter
 clear d f hE
 have p:((Xb us (us.length-1)).kind==1)=true:=by simpa using (show (Xb us (us.length-1)).kind=1 from hk)
 have j:=Xa (Xi8 h1 h2 hk)
 have l:=Xa (fun (w':World) (hb:Below w.heap.size w w')=>Xhz (w':=w') h2 hlo' (Nat.le_trans hB' hb.size) (fun k hk=>hb.block k (by omega)) hy)
 clear hx hy
 go_enter Tryz.func174,Tryz.ntmps174
 go_wp2_with fail
 refine (g.out.says _).mono ?_
 rintro e P ⟨rfl,c⟩
 have b:=Xa c
 clear c
 go_wp2_with fail
 go_ret2
 exact ⟨Or.inl ⟨j.out.1,_,_,_,_,rfl,(l.out _ b.out).1,by rw[j.out.2];exact (l.out _ b.out).2⟩,b.out⟩
theorem Xqg (us vs:List VN) (h1:okB us=true) (h2:okB vs=true) (lo B lo' B':Nat) (hlo:lo<=B) (hlo':lo'<=B') (x y:Value) (w:World) (hx:ValG lo B w us us.length (us.length-1) x) (hy:ValG lo' B' w vs vs.length (vs.length-1) y) (hB:B<=w.heap.size) (hB':B'<=w.heap.size) (hE:Errs2 w) (hk1:(Xd us).kind≠1) (hk:(Xd vs).kind=1):
  Calls Tryz.prog 174 #[x,y] w fun e w'=>Q2 (Qg us vs) (Zt us vs) e w'/\Below w.heap.size w w':=by
 obtain ⟨z,C,D,rfl,g⟩:=Qc hx
 obtain ⟨F,G,J,rfl,j⟩:=Qc hy
 have l:=Xa g
 have o:=Xa j
 have L:=Xa hE
 have M:=g.meth
 have P:=g.enter
 have R:=j.meth
 have S:=j.enter
 clear g j hE
 have s:((Xb us (us.length-1)).kind==1)=false:=by simpa using (show ¬(Xb us (us.length-1)).kind=1 from hk1)
 have t:((Xb vs (vs.length-1)).kind==1)=true:=by simpa using (show (Xb vs (vs.length-1)).kind=1 from hk)
 have p:=Xa (Xi9 h1 h2 hk1 hk)
 have q:=Xa (fun (w':World) (hb:Below w.heap.size w w')=>Xhz (w':=w') h1 hlo (Nat.le_trans hB hb.size) (fun k hk=>hb.block k (by omega)) hx)
 clear hx hy
 go_enter Tryz.func174,Tryz.ntmps174
 go_wp2_with fail
 refine (l.out.says _).mono ?_
 rintro e T ⟨rfl,c⟩
 have d:=Xa c
 clear c
 go_wp2_with fail
 refine (o.out.says _).mono ?_
 rintro e V ⟨rfl,f⟩
 have b:=Xa (d.out.trans (f.mono d.out.size))
 clear f
 go_wp2_with fail
 go_ret2
 exact ⟨Or.inl ⟨p.out.1,_,_,_,_,rfl,(q.out _ b.out).1,by rw[p.out.2];exact (q.out _ b.out).2⟩,b.out⟩
theorem Xs5 (us vs:List VN) (h1:okB us=true) (h2:okB vs=true) (lo B lo' B':Nat) (hlo:lo<=B) (hlo':lo'<=B') (x y:Value) (w:World) (hx:ValG lo B w us us.length (us.length-1) x) (hy:ValG lo' B' w vs vs.length (vs.length-1) y) (hB:B<=w.heap.size) (hB':B'<=w.heap.size) (hE:Errs2 w) (hk1:(Xd us).kind≠1) (hk2:(Xd vs).kind≠1) (hk:(Xd us).kind≠(Xd vs).kind):
  Calls Tryz.prog 174 #[x,y] w fun e w'=>Q2 (Qg us vs) (Zt us vs) e w'/\Below w.heap.size w w':=by
 obtain ⟨R,S,T,rfl,s⟩:=Qc hx
 obtain ⟨V,X,Y,rfl,t⟩:=Qc hy
 have b:=Xa s
 have c:=Xa t
 have F:=Xa hE
 have Z:=s.meth
 have e1:=s.enter
 have m2:=t.meth
 have e2:=t.enter
 clear s t hE
 have G:((Xb us (us.length-1)).kind==1)=false:=by simpa using (show ¬(Xb us (us.length-1)).kind=1 from hk1)
 have J:((Xb vs (vs.length-1)).kind==1)=false:=by simpa using (show ¬(Xb vs (vs.length-1)).kind=1 from hk2)
 have L:((Xb us (us.length-1)).kind !=(Xb vs (vs.length-1)).kind)=true:=by
  have:¬(Xb us (us.length-1)).kind=(Xb vs (vs.length-1)).kind:=hk
  simpa using this
 have D:=Xa (Xcm h1 h2 hk1 hk2 (fun h=>hk h.1))
 clear hx hy
 go_enter Tryz.func174,Tryz.ntmps174
 go_wp2_with fail
 refine (b.out.says _).mono ?_
 rintro e w1 ⟨rfl,d⟩
 have f:=Xa d
 clear d
 go_wp2_with fail
 refine (c.out.says _).mono ?_
 rintro e wa ⟨rfl,g⟩
 have j:=Xa (f.out.trans (g.mono f.out.size))
 clear g
 go_wp2_with fail
 refine (b.out.says _).mono ?_
 rintro e wb ⟨rfl,l⟩
 have o:=Xa (j.out.trans (l.mono j.out.size))
 clear l
 go_wp2_with fail
 refine (c.out.says _).mono ?_
 rintro e w2 ⟨rfl,p⟩
 have q:=Xa (o.out.trans (p.mono o.out.size))
 have z:=Xa (F.out.below q.out)
 clear p
 go_wp2_with fail
 refine (Zx _ z.out.errs).mono ?_
 rintro e w3 ⟨⟨v,rfl,M,P,rfl,C⟩,rfl⟩
 go_wp2_with fail
 go_ret2
 exact ⟨Or.inr ⟨D.out.2,_,rfl,by rw[D.out.1];exact ⟨M,P,rfl,C⟩⟩,q.out⟩
theorem Xmt (x:Value) (w:World):(Instr.typeAssert (.iface 113 x) 52 116 true).run Tryz.prog w= .ok (.tuple #[.agg #[.string ByteArray.empty], .bool false]) w:=by kernel_rfl
theorem Xqh (x:Value) (w:World):(Instr.typeAssert (.iface 113 x) 52 118 true).run Tryz.prog w= .ok (.tuple #[.agg #[.slice none 0 0, .slice none 0 0], .bool false]) w:=by kernel_rfl
theorem Xs6 (us vs : List VN) (h1 : okB us = true) (h2 : okB vs = true) (lo B lo' B' : Nat) (hlo : lo <= B) (hlo' : lo' <= B') (x y : Value) (w : World) (hx : ValG lo B w us us.length (us.length - 1) x) (hy : ValG lo' B' w vs vs.length (vs.length - 1) y) (hB : B <= w.heap.size) (hB' : B' <= w.heap.size) (hE : Errs2 w) (hk : (Xd us).kind = 2) (hk' : (Xd vs).kind = 2) :
  Calls Tryz.prog 174 #[x,y] w fun e w'=>Q2 (Qg us vs) (Zt us vs) e w'/\Below w.heap.size w w':=by
 obtain ⟨L,vx,Fx,rfl,z⟩:=Qc hx
 obtain ⟨ty,vy,Fy,rfl,C⟩:=Qc hy
 have b:=Xa z
 have c:=Xa C
 have M:=Xa hE
 have m1:=z.meth
 have e1:=z.enter
 have m2:=C.meth
 have e2:=C.enter
 clear z C hE
 have P:((Xb us (us.length-1)).kind==1)=false:=by simpa using (show ¬(Xb us (us.length-1)).kind=1 from (by have:(Xb us (us.length-1)).kind=2:=hk;omega))
 have R:((Xb vs (vs.length-1)).kind==1)=false:=by simpa using (show ¬(Xb vs (vs.length-1)).kind=1 from (by have:(Xb vs (vs.length-1)).kind=2:=hk';omega))
 have S:((Xb us (us.length-1)).kind !=(Xb vs (vs.length-1)).kind)=false:=by
  have:(Xb us (us.length-1)).kind=(Xb vs (vs.length-1)).kind:=hk.trans hk'.symm
  simpa using this
 have J:=Xa (Xcm h1 h2 (by omega) (by omega) (fun h=>h.2 hk))
 obtain ⟨T,_,_,_⟩:=Xm h1
 obtain ⟨f,D⟩:∃f,us.length=f+1:=⟨us.length-1,by omega⟩
 have V:L=113:=by
  have d:=hx
  rw[D,show f+1-1=f by omega] at d
  have hr : (Xb us f).kind = 2 := by have : Xd us = Xb us f := (by unfold Xd; rw [D]; rfl);rw[<-this];exact hk
  rcases d with ⟨k,e⟩|⟨k,e⟩|⟨k,e⟩|⟨k,e⟩|⟨k,it,e,hi⟩|⟨k,ks,it,e,hs,hi⟩
  case inr.inl=>cases e;rfl
  all_goals exact absurd k (by omega)
 subst V
 have X:=Xgq
 have Y:=Xe2
 have Z:=Xmt
 have ba:=Xqh
 clear hx hy T D
 go_enter Tryz.func174,Tryz.ntmps174
 go_wp2_with fail
 refine (b.out.says _).mono ?_
 rintro e w1 ⟨rfl,g⟩
 have j:=Xa g
 clear g
 go_wp2_with fail
 refine (c.out.says _).mono ?_
 rintro e wa ⟨rfl,l⟩
 have o:=Xa (j.out.trans (l.mono j.out.size))
 clear l
 go_wp2_with fail
 refine (b.out.says _).mono ?_
 rintro e wb ⟨rfl,p⟩
 have q:=Xa (o.out.trans (p.mono o.out.size))
 clear p
 go_wp2_with fail
 refine (c.out.says _).mono ?_
 rintro e w2 ⟨rfl,s⟩
 have t:=Xa (q.out.trans (s.mono q.out.size))
 have F:=Xa (M.out.below t.out)
 clear s
 go_wp2_with fail
 refine (Zx _ F.out.errs).mono ?_
 rintro e w3 ⟨⟨v,rfl,te,xe,rfl,G⟩,rfl⟩
 go_wp2_with fail
 go_ret2
 exact ⟨Or.inr ⟨J.out.2,_,rfl,by rw[J.out.1];exact ⟨te,xe,rfl,G⟩⟩,t.out⟩


theorem Xfs (B:Nat) (w:World) (s:ByteArray):TreeAt B w 1 (.mk 4 0 s [] []) (.iface 116 (.agg #[.string s])):=Or.inr (Or.inr (Or.inr (Or.inl ⟨rfl,rfl,rfl,rfl,rfl⟩)))
theorem Xht (s:ByteArray):Yb 1 (.mk 4 0 s [] []) 0=Xr 4 0 s:=rfl
theorem Xru (x:Value) (w:World):(Instr.typeAssert (.iface 116 x) 52 114 true).run Tryz.prog w= .ok (.tuple #[.agg #[.int .i64 0], .bool false]) w:=by kernel_rfl
theorem X15 (s:ByteArray) (h:s.size<=140737488355328):∀i,i<(Xr 4 0 s).length->Fits (Xb (Xr 4 0 s) i):=by
 intro i b
 obtain rfl:i=0:=by simp[Xr] at b;omega
 refine ⟨by simp[Xr,Xb],fun i b=>absurd b (by simp[Xr,Xb]),by simp[Xr,Xb],fun i b=>absurd b (by simp[Xr,Xb]),by simpa [Xr,Xb] using h,by simp[Xr,Xb],by simp[Xr,Xb],by simp[Xr,Xb],by simp[Xr,Xb]⟩
theorem Xyw {us:List VN} (hok:okB us=true) (hk:(Xd us).kind=4):(Xd us).s.size<=60:=by
 rcases Ju hok with k|k|⟨k,a,b⟩|⟨k,a⟩|⟨k,a⟩|⟨k,a⟩
 ·omega
 ·omega
 ·omega
 ·exact a
 ·omega
 ·omega
theorem Xyx (us vs:List VN) (h1:okB us=true) (h2:okB vs=true) (lo B lo' B':Nat) (hlo:lo<=B) (hlo':lo'<=B') (x y:Value) (w:World) (hx:ValG lo B w us us.length (us.length-1) x) (hy:ValG lo' B' w vs vs.length (vs.length-1) y) (hB:B<=w.heap.size) (hB':B'<=w.heap.size) (hE:Errs2 w) (hk4:(Xd us).kind=4) (hk4':(Xd vs).kind=4):
  Calls Tryz.prog 174 #[x,y] w fun e w'=>Q2 (Qg us vs) (Zt us vs) e w'/\Below w.heap.size w w':=by
 obtain ⟨tx,vx,Fx,rfl,kx⟩:=Qc hx
 obtain ⟨ty,vy,Fy,rfl,ky⟩:=Qc hy
 have D:=Xa kx
 have F:=Xa ky
 have HE:=Xa hE
 have m1:=kx.meth
 have e1:=kx.enter
 have m2:=ky.meth
 have e2:=ky.enter
 clear kx ky hE
 have bf:((Xb us (us.length-1)).kind !=(Xb vs (vs.length-1)).kind)=false:=by
  have:(Xb us (us.length-1)).kind=(Xb vs (vs.length-1)).kind:=hk4.trans hk4'.symm
  simpa using this
 have bg:=Xru
 have bh:=Um
 have bi:=Xsy
 have bj:=Xms
 obtain ⟨p1,_,_,_⟩:=Xm h1
 obtain ⟨p2,_,_,_⟩:=Xm h2
 obtain ⟨f,hf⟩:∃f,us.length=f+1:=⟨us.length-1,by omega⟩
 obtain ⟨G,o⟩:∃G,vs.length=G+1:=⟨vs.length-1,by omega⟩
 have n1:=Xyw h1 hk4
 have n2:=Xyw h2 hk4'
 have J:=Xa (G9 h1 h2 (by omega) (by omega) (by omega))
 rw[Xp5 hk4] at J
 have bk : ((Xb us (us.length - 1)).kind == 1) = false := by
  have : ¬ (Xb us (us.length - 1)).kind = 1 := by have : (Xb us (us.length - 1)).kind = 4 := hk4;omega
  simpa using this
 have bl : ((Xb vs (vs.length - 1)).kind == 1) = false := by
  have : ¬ (Xb vs (vs.length - 1)).kind = 1 := by have : (Xb vs (vs.length - 1)).kind = 4 := hk4';omega
  simpa using this
 have p:Hid (Xi7 us vs=Xr 4 0 ((Xd us).s++(Xd vs).s)):=rfl
 obtain ⟨b,q⟩:∃b,(Xd us).s=b:=⟨_,rfl⟩
 obtain ⟨c,t⟩:∃c,(Xd vs).s=c:=⟨_,rfl⟩
 rw[q] at n1 p
 rw[t] at n2 p
 have ex:vx= .agg #[.string b]/\tx=116:=by
  have d:=hx
  rw[hf,show f+1-1=f by omega] at d
  have hr:Xb us f=Xd us:=by unfold Xd;rw[hf];rfl
  unfold ValG at d
  rw[hr,q] at d
  rcases d with ⟨k,e⟩|⟨k,e⟩|⟨k,e⟩|⟨k,e⟩|⟨k,it,e,hi⟩|⟨k,ks,it,e,hs,hi⟩
  case inr.inr.inr.inl=>cases e;exact ⟨rfl,rfl⟩
  all_goals exact absurd k (by omega)
 have ey:vy= .agg #[.string c]/\ty=116:=by
  have g:=hy
  rw[o,show G+1-1=G by omega] at g
  have hr:Xb vs G=Xd vs:=by unfold Xd;rw[o];rfl
  unfold ValG at g
  rw[hr,t] at g
  rcases g with ⟨k,e⟩|⟨k,e⟩|⟨k,e⟩|⟨k,e⟩|⟨k,it,e,hi⟩|⟨k,ks,it,e,hs,hi⟩
  case inr.inr.inr.inl=>cases e;exact ⟨rfl,rfl⟩
  all_goals exact absurd k (by omega)
 obtain ⟨rfl,rfl⟩:=ex
 obtain ⟨rfl,rfl⟩:=ey
 have ba:=Xa (X15 (b++c) (by rw[ByteArray.size_append];omega))
 have bd:∀w,(Op.stringOp .add b c).run Tryz.prog w= .ok (.string (b++c)) w:=fun w=>run_string_add_sum w b c (by omega)
 have be:¬(b.size+c.size>9223372036854775807):=by omega
 clear hx hy q t p1 p2 hf o
 go_enter Tryz.func174,Tryz.ntmps174
 go_wp2_with fail
 refine (D.out.says _).mono ?_
 rintro e w1 ⟨rfl,L⟩
 have M:=Xa L
 clear L
 go_wp2_with fail
 refine (F.out.says _).mono ?_
 rintro e wa ⟨rfl,P⟩
 have R:=Xa (M.out.trans (P.mono M.out.size))
 clear P
 go_wp2_with fail
 refine (D.out.says _).mono ?_
 rintro e wb ⟨rfl,S⟩
 have T:=Xa (R.out.trans (S.mono R.out.size))
 clear S
 go_wp2_with fail
 refine (F.out.says _).mono ?_
 rintro e w2 ⟨rfl,V⟩
 have z:=Xa (T.out.trans (V.mono T.out.size))
 have X:=Xa ((HE.out.below z.out).below ((Below.refl _ _).alloc (Nat.le_refl _) (.cells #[.string b] 116)))
 clear V
 go_wp2_with fail
 obtain ⟨W,hW⟩:∃W,w2.alloc (.cells #[.string b] 116)=W:=⟨_,rfl⟩
 have c0:W.cell? ⟨w2.heap.size,0,none⟩=some (.string b):=by rw[<-hW];simp
 have bb:Hid (Below w.heap.size w W):=by rw[Hid,<-hW];exact z.out.alloc z.out.size _
 rw[hW] at X|-
 have Y:=Xa (X.out.below (w':=W.drew) (W9 rfl rfl rfl rfl))
 have j:Hid (Below w.heap.size w W.drew):=bb.out.drew
 clear hW
 have l:=p
 have Z:=ba
 cases ok:okB (Xr 4 0 (b++c))
 ·go_region_law (refine Zu (by rfl) 142 _ _ (by rfl) (.iface 116 (.agg #[.string (b++c)])) (by rfl) (Qo _) (Jy 1 (.mk 4 0 (b++c) [] []) _ (Xr 4 0 (b++c)) _ (Xfs _ _ _) (Xht _) (by simp[Xr]) Z.out Y.out ok) ?_;rintro e w3 ⟨te,xe,rfl,bc,hq⟩;refine ⟨_,rfl, ?_⟩)
  all_goals
   have C:=Xa (j.out.trans (hq.mono j.out.size))
   clear hq
   go_wp2_with fail
   go_ret2
   exact ⟨Or.inr ⟨by rw[J.out.2,l.out,ok];rfl,_,rfl,by rw[J.out.1,l.out,ok];exact ⟨te,xe,rfl,bc⟩⟩,C.out⟩
 ·go_region_law (refine Zu (by rfl) 142 _ _ (by rfl) (.iface 116 (.agg #[.string (b++c)])) (by rfl) (Qo _) (Jf 1 (.mk 4 0 (b++c) [] []) _ (Xr 4 0 (b++c)) _ (Xfs _ _ _) (Xht _) (by simp[Xr]) Z.out Y.out ok) ?_;rintro e w3 ⟨rfl,hq⟩;refine ⟨_,rfl, ?_⟩)
  all_goals
   have C:=Xa (j.out.trans (hq.mono j.out.size))
   clear hq
   go_wp2_with fail
   go_ret2
   exact ⟨Or.inl ⟨by rw[J.out.1,l.out,ok];rfl,1,_,_,_,rfl,Xfs _ _ _,by rw[J.out.2,l.out,ok];exact Xht _⟩,C.out⟩
end Go.Proofs.YtdjddneidbddpaaGreatDoor
