import Derived.Test.YtdjddneidbddpaaGreatDoorSeF
import Derived.Test.YtdjddneidbddpaaGreatDoorIMrg
import Derived.Laws.AppendOwn
import Derived.Deep.QuietTactic
import Derived.BigQuiet
import Derived.Test.YtdjddneidbddpaaGreatDoorSMin
import Derived.Test.YtdjddneidbddpaaGreatDoorStbN
import Derived.Deep.RegionWith
import Derived.Test.YtdjddneidbddpaaGreatDoorByP
import Derived.Laws.Concat
namespace Go.Proofs.YtdjddneidbddpaaGreatDoor
set_option linter.unusedSectionVars false
set_option maxHeartbeats 3200000
open Go.RowKit
set_option linter.unusedSimpArgs false
set_option linter.unusedVariables false
structure ButE (E:Nat) (w w':World):Prop where
 os:w'.os=w.os
 tape:w'.tape=w.tape
 output:w'.output=w.output
 size:w.heap.size≤w'.heap.size
 block:∀c,c<w.heap.size→c≠E→w'.heap[c]? =w.heap[c]?
theorem ButE.refl (E:Nat) (w:World):ButE E w w:=⟨rfl,rfl,rfl,Nat.le_refl _,fun _ _ _=>rfl⟩
theorem ButE.trans {E:Nat} {a b c:World} (h:ButE E a b) (k:ButE E b c):ButE E a c:=
 ⟨k.os.trans h.os,k.tape.trans h.tape,k.output.trans h.output,Nat.le_trans h.size k.size,fun x hx hn=>(k.block x (Nat.lt_of_lt_of_le hx h.size) hn).trans (h.block x hx hn)⟩
theorem ButE.of_below {E:Nat} {w w':World} (h:Below w.heap.size w w'):ButE E w w':=⟨h.os,h.tape,h.output,h.size,fun k hk _=>h.block k hk⟩
theorem ButE.below {E B:Nat} {w w':World} (h:ButE E w w') (hB:B≤E) (hw:B≤w.heap.size):Below B w w':=⟨h.os,h.tape,h.output,h.size,fun k hk=>h.block k (by omega) (by omega)⟩
structure FrH (Z E O:Nat) (w w':World):Prop where
 os:w'.os=w.os
 tape:w'.tape=w.tape
 output:w'.output=w.output
 size:w.heap.size≤w'.heap.size
 block:∀k,k<Z→k≠E→w'.heap[k]? =w.heap[k]?
 cell:∀b o v,b≠E→b≠O→v≠ .nilIface→w.cell? ⟨b,o,none⟩=some v→w'.cell? ⟨b,o,none⟩=some v
theorem FrH.refl (Z E O:Nat) (w:World):FrH Z E O w w:=⟨rfl,rfl,rfl,Nat.le_refl _,fun _ _ _=>rfl,fun _ _ _ _ _ _ h=>h⟩
theorem FrH.trans {Z E O:Nat} {a b c:World} (h:FrH Z E O a b) (k:FrH Z E O b c):FrH Z E O a c:=
 ⟨k.os.trans h.os,k.tape.trans h.tape,k.output.trans h.output,Nat.le_trans h.size k.size,fun x hx hn=>(k.block x hx hn).trans (h.block x hx hn),fun b o v h1 h2 h3 h4=>k.cell b o v h1 h2 h3 (h.cell b o v h1 h2 h3 h4)⟩
theorem ButE.frh {Z E O:Nat} {w w':World} (h:ButE E w w') (hZ:Z≤w.heap.size):FrH Z E O w w':=
 ⟨h.os,h.tape,h.output,h.size,fun k hk hn=>h.block k (by omega) hn,fun b o v h1 _ _ hc=>(World.cell?_of_block (w:=w) (w':=w') (a:=⟨b,o,none⟩) (h.block b (X8 hc) h1)).trans hc⟩
theorem FrH.of_below {Z E O:Nat} {w w':World} (h:Below w.heap.size w w') (hZ:Z≤w.heap.size):FrH Z E O w w':=(ButE.of_below (E:=E) h).frh hZ
theorem FrH.below {Z E O B:Nat} {w w':World} (h:FrH Z E O w w') (hB:B≤E) (hZ:B≤Z):Below B w w':=⟨h.os,h.tape,h.output,h.size,fun k hk=>h.block k (by omega) (by omega)⟩
structure Errs4 (w:World):Prop where
 two:Errs2 w
 outs:∃a a0:Addr,w.cell? ⟨1,0,none⟩=some (.iface 257 (.pointer (some a)))∧w.cell? ⟨3,0,none⟩=some (.iface 257 (.pointer (some a0)))∧a≠a0∧(∃cs t,w.heap[a.block]? =some (.cells cs t (0,0)))∧∃cs t,w.heap[a0.block]? =some (.cells cs t (0,0))
 fuel:∃a a0:Addr,w.cell? ⟨0,0,none⟩=some (.iface 257 (.pointer (some a)))∧w.cell? ⟨3,0,none⟩=some (.iface 257 (.pointer (some a0)))∧a≠a0∧(∃cs t,w.heap[a.block]? =some (.cells cs t (0,0)))∧∃cs t,w.heap[a0.block]? =some (.cells cs t (0,0))
theorem Errs4.keep {w w':World} (h:Errs4 w) (hb:Below w.heap.size w w'):Errs4 w':=by
 obtain ⟨h2,⟨a,a0,p1,p2,p3,⟨c,t,p4⟩,c0,t0,p5⟩,⟨b,b0,q1,q2,q3,⟨d,s,q4⟩,d0,s0,q5⟩⟩:=h
 exact ⟨h2.below hb,⟨a,a0,(Xc hb (X8 p1)).trans p1,(Xc hb (X8 p2)).trans p2,p3,⟨c,t,(hb.block _ (Zo p4)).trans p4⟩,c0,t0,(hb.block _ (Zo p5)).trans p5⟩,
  ⟨b,b0,(Xc hb (X8 q1)).trans q1,(Xc hb (X8 q2)).trans q2,q3,⟨d,s,(hb.block _ (Zo q4)).trans q4⟩,d0,s0,(hb.block _ (Zo q5)).trans q5⟩⟩
structure ErrB (B:Nat) (w:World):Prop where
 base:∃w0,Errs4 w0∧w0.heap.size=B∧Below B w0 w
theorem ErrB.now {B:Nat} {w:World} (h:ErrB B w):Errs4 w:=by
 obtain ⟨w0,h1,h2,h3⟩:=h.base
 subst h2
 exact h1.keep h3
theorem ErrB.below {B:Nat} {w w':World} (h:ErrB B w) (hb:Below B w w'):ErrB B w':=by
 obtain ⟨w0,h1,h2,h3⟩:=h.base
 exact ⟨w0,h1,h2,h3.trans hb⟩
theorem ErrB.le {B:Nat} {w:World} (h:ErrB B w):B≤w.heap.size:=by
 obtain ⟨w0,h1,h2,h3⟩:=h.base
 have:=h3.size
 omega
structure EvB (B E:Nat) (fv:Value) (fs:List FN) (fu:Nat) (w:World):Prop where
 blk:w.heap[E]? =some (.cells #[fv, .int .i64 (fu:Int)] 57 (0,0))
 nodes:FNodesAt B w fv fs
 hBE:B≤E
 errs:ErrB B w
theorem EvB.lt {B E:Nat} {fv:Value} {fs:List FN} {fu:Nat} {w:World} (h:EvB B E fv fs fu w):E<w.heap.size:=Zo h.blk
theorem EvB.below {B E:Nat} {fv:Value} {fs:List FN} {fu:Nat} {w w':World} (h:EvB B E fv fs fu w) (hb:Below w.heap.size w w'):EvB B E fv fs fu w':=
 ⟨(hb.block E h.lt).trans h.blk,h.nodes.below (hb.mono h.errs.le),h.hBE,h.errs.below (hb.mono h.errs.le)⟩
def OutRow (Z:Nat) (w:World) (sv:Value) (xs:List Value):Prop:=
 (sv= .slice none 0 0∧xs= [])∨∃g cap,sv= .slice (some ⟨g,0,none⟩) xs.length cap∧Z≤g∧w.heap[g]? =some (.cells (xs++List.replicate (cap-xs.length) Value.nilIface).toArray 52 (0,0))∧xs.length≤cap∧cap≤maxLen∧0<cap
structure OutsAt (Z E O:Nat) (w:World) (outs:List (List VN)) (sv:Value) (xs:List Value):Prop where
 box:w.heap[O]? =some (.cells #[sv] 58 (0,0))
 row:OutRow Z w sv xs
 len:xs.length=outs.length
 rep:∀j,j<outs.length→Rep w (Xl outs j) (xs.getD j undef)
 lo:Z≤O
 few:outs.length≤40
structure St (B Z E O:Nat) (fv:Value) (fs:List FN) (st:Xt) (w:World):Prop where
 ev:EvB B E fv fs st.1 w
 outs:∃sv xs,OutsAt Z E O w st.2 sv xs
 hEZ:E<Z
 hZ:Z≤w.heap.size
theorem Xg {w:World} {b:Nat} {cs:Array Value} {t:TypeId} {z:Nat×Nat} (h:w.heap[b]? =some (.cells cs t z)) (o:Nat):w.cell? ⟨b,o,none⟩=cs[o]? :=by
 simp[World.cell?,h]
theorem Xta {fv:Value} {fu:Int} {o:Nat} {v:Value} (h:(#[fv, .int .i64 fu]:Array Value)[o]? =some v) (hf:∃a n c,fv= .slice a n c):(∀t x,v≠ .iface t x)∧∀s,v≠ .string s:=by
 obtain ⟨a,n,c,rfl⟩:=hf
 match o,h with
 |0,h=>simp at h;subst h;exact And.intro (by intro t x e;cases e) (by intro t e;cases e)
 |1,h=>simp at h;subst h;exact And.intro (by intro t x e;cases e) (by intro t e;cases e)
 |o+2,h=>simp at h
theorem OutRow.slice {Z:Nat} {w:World} {sv:Value} {xs:List Value} (h:OutRow Z w sv xs):∃a c,sv= .slice a xs.length c:=by
 rcases h with ⟨rfl,rfl⟩|⟨g,cap,rfl,_⟩
 ·exact ⟨none,0,rfl⟩
 ·exact ⟨_,_,rfl⟩
theorem FNodesAt.slice {B:Nat} {w:World} {v:Value} {fs:List FN} (h:FNodesAt B w v fs):∃a n c,v= .slice a n c:=by
 obtain ⟨_,a,c,rfl,_⟩:=h
 exact ⟨_,_,_,rfl⟩
theorem FrH.reads {Z E O:Nat} {w w':World} (h:FrH Z E O w w') {B:Nat} {fv:Value} {fs:List FN} {fu:Nat} (he:EvB B E fv fs fu w) {sv:Value} (hO:w.heap[O]? =some (.cells #[sv] 58 (0,0))) (hs:∃a n c,sv= .slice a n c):Reads2 w w':=by
 have hE:∀o v,w.cell? ⟨E,o,none⟩=some v→(∀t x,v≠ .iface t x)∧∀s,v≠ .string s:=fun o v hc=>by
  rw[Xg he.blk] at hc
  exact Xta hc he.nodes.slice
 have hO':∀o v,w.cell? ⟨O,o,none⟩=some v→(∀t x,v≠ .iface t x)∧∀s,v≠ .string s:=fun o v hc=>by
  rw[Xg hO] at hc
  obtain ⟨a,n,c,rfl⟩:=hs
  match o,hc with
  |0,hc=>simp at hc;subst hc;exact And.intro (by intro t x e;cases e) (by intro t e;cases e)
  |o+1,hc=>simp at hc
 refine ⟨h.size,fun b o t x hc=>h.cell b o _ (fun e=> ?_) (fun e=> ?_) (fun e=>by cases e) hc,fun b o s hc=>h.cell b o _ (fun e=> ?_) (fun e=> ?_) (fun e=>by cases e) hc⟩
 ·subst e;exact (hE _ _ hc).1 _ _ rfl
 ·subst e;exact (hO' _ _ hc).1 _ _ rfl
 ·subst e;exact (hE _ _ hc).2 _ rfl
 ·subst e;exact (hO' _ _ hc).2 _ rfl
theorem ButE.reads {E:Nat} {w w':World} (h:ButE E w w') {B:Nat} {fv:Value} {fs:List FN} {fu:Nat} (he:EvB B E fv fs fu w):Reads2 w w':=by
 have hE:∀o v,w.cell? ⟨E,o,none⟩=some v→(∀t x,v≠ .iface t x)∧∀s,v≠ .string s:=fun o v hc=>by
  rw[Xg he.blk] at hc
  exact Xta hc he.nodes.slice
 have hk:∀b o v,b≠E→w.cell? ⟨b,o,none⟩=some v→w'.cell? ⟨b,o,none⟩=some v:=fun b o v h1 hc=>(World.cell?_of_block (w:=w) (w':=w') (a:=⟨b,o,none⟩) (h.block b (X8 hc) h1)).trans hc
 refine ⟨h.size,fun b o t x hc=>hk b o _ (fun e=> ?_) hc,fun b o s hc=>hk b o _ (fun e=> ?_) hc⟩
 ·subst e;exact (hE _ _ hc).1 _ _ rfl
 ·subst e;exact (hE _ _ hc).2 _ rfl
theorem St.reads {B Z E O:Nat} {fv:Value} {fs:List FN} {st:Xt} {w w':World} (h:St B Z E O fv fs st w) (hf:FrH Z E O w w'):Reads2 w w':=by
 obtain ⟨sv,xs,ho⟩:=h.outs
 obtain ⟨a,c,e⟩:=ho.row.slice
 exact hf.reads h.ev ho.box ⟨a,_,c,e⟩
theorem OutRow.keep {Z E:Nat} {w w':World} {sv:Value} {xs:List Value} (h:OutRow Z w sv xs) (hE:E<Z) (hb:ButE E w w'):OutRow Z w' sv xs:=by
 rcases h with h|⟨g,cap,e,h1,h2,h3⟩
 ·exact .inl h
 ·exact .inr ⟨g,cap,e,h1,(hb.block g (Zo h2) (by omega)).trans h2,h3⟩
theorem St.step {B Z E O:Nat} {fv:Value} {fs:List FN} {st:Xt} {fu:Nat} {w w':World} (h:St B Z E O fv fs st w) (hb:ButE E w w') (he:EvB B E fv fs fu w'):St B Z E O fv fs (fu,st.2) w':=by
 obtain ⟨sv,xs,ho⟩:=h.outs
 have hr:=hb.reads h.ev
 have hEZ:=h.hEZ
 have hlo:=ho.lo
 exact ⟨he,⟨sv,xs,(hb.block O (Zo ho.box) (by omega)).trans ho.box,ho.row.keep h.hEZ hb,ho.len,fun j hj=>(ho.rep j hj).reads hr,ho.lo,ho.few⟩,h.hEZ,Nat.le_trans h.hZ hb.size⟩
theorem St.below {B Z E O:Nat} {fv:Value} {fs:List FN} {st:Xt} {w w':World} (h:St B Z E O fv fs st w) (hb:Below w.heap.size w w'):St B Z E O fv fs st w':=h.step (.of_below hb) (h.ev.below hb)
theorem St.hO {B Z E O:Nat} {fv:Value} {fs:List FN} {st:Xt} {w:World} (h:St B Z E O fv fs st w):O<w.heap.size∧Z≤O:=by
 obtain ⟨sv,xs,ho⟩:=h.outs
 exact ⟨Zo ho.box,ho.lo⟩
def Jk (w:World) (c:Int) (v:Value):Prop:=(c=0∧v= .nilIface)∨(c≠0∧Kf w c v)
def Yz (B Z E O:Nat) (fv:Value) (fs:List FN) (r:Int×Xt) (w:World) (e:Ending) (w':World):Prop:=
 (∃v,e= .returned v∧Jk w' r.1 v)∧FrH Z E O w w'∧St B Z E O fv fs r.2 w'
structure HandOk (B Z E O D:Nat) (fv:Value) (fs:List FN) (w0:World) (H:FuncId) (caps:Array Value) (h:Yc):Prop where
 enter:∀x w,(callFunc H (#[x]++caps)).run Tryz.prog w= .ok (.enter H (#[x]++caps)) w
 le:∀ns st,okB ns=true→(h ns st).2.1≤st.1
 says:∀w,FrH Z E O w0 w→∀st x ns,st.1≤D→St B Z E O fv fs st w→Rep w ns x→Calls Tryz.prog H (#[x]++caps) w (Yz B Z E O fv fs (h ns st) w)
theorem HandOk.on {B Z E O D:Nat} {fv:Value} {fs:List FN} {w0 w1:World} {H:FuncId} {caps:Array Value} {h:Yc} (k:HandOk B Z E O D fv fs w0 H caps h) (hf:FrH Z E O w0 w1):HandOk B Z E O D fv fs w1 H caps h:=
 ⟨k.enter,k.le,fun w hw=>k.says w (hf.trans hw)⟩

theorem Xg8 {P:Program} {t:TypeId} {z:Option Value} {s b:Nat} (h:(P.info? t).map (fun i=>(i.zero,i.size,i.bytes))=some (z,s,b)):∃i,P.info? t=some i∧i.zero=z∧i.size=s∧i.bytes=b:=by
 cases hi:P.info? t with
 |none=>simp[hi] at h
 |some i=>simp[hi] at h;exact ⟨i,rfl,h.1,h.2.1,h.2.2⟩
theorem Xod (k:Nat):Builtin.zeroCells (Value.cells .nilIface) k=(List.replicate k Value.nilIface).toArray:=by
 unfold Builtin.zeroCells
 have e:Value.cells .nilIface= #[.nilIface]:=rfl
 rw[e]
 apply Array.ext
 ·simp
 ·intro i h1 h2
  simp[Nat.mod_one]
structure AppFr (Z:Nat) (w w':World):Prop where
 os:w'.os=w.os
 tape:w'.tape=w.tape
 output:w'.output=w.output
 size:w.heap.size≤w'.heap.size
 block:∀k,k<Z→w'.heap[k]? =w.heap[k]?
 other:∀(k:Nat) (cs:Array Value) (t:TypeId) (z:Nat×Nat),t≠52→w.heap[k]? =some (Obj.cells cs t z)→w'.heap[k]? =some (Obj.cells cs t z)
 cell:∀b o v,v≠ .nilIface→w.cell? ⟨b,o,none⟩=some v→w'.cell? ⟨b,o,none⟩=some v
theorem Xoe:(Tryz.prog.info? 52).map (fun i=>(i.zero,i.size,i.bytes))=some (some .nilIface,1,16):=by kernel_rfl
theorem Xof (Z:Nat) (w:World) (o:Obj) (hZ:Z≤w.heap.size):AppFr Z w (w.drew.alloc o):=
 ⟨rfl,rfl,rfl,by simp,fun k hk=>Go.heap_alloc_old w.drew o (by simpa using Nat.lt_of_lt_of_le hk hZ),fun k cs t z _ h=>by
   have hk:k<w.drew.heap.size:=by simpa using Zo h
   exact (Go.heap_alloc_old w.drew o hk).trans h,fun b o' v _ h=>by
   have hk:b<w.drew.heap.size:=by simpa using X8 h
   exact (World.cell?_of_block (w:=w.drew) (a:=⟨b,o',none⟩) (Go.heap_alloc_old w.drew o hk)).trans h⟩
set_option maxRecDepth 100000 in
theorem Xuo {Z:Nat} {w:World} {sv:Value} {xs:List Value} (h:OutRow Z w sv xs) (a:Addr) (c:Nat) (x:Value) (ty:TypeId) (hx:w.cell? (a.add 0)=some x) (h1:x.oneCell'=true) (hlen:xs.length≤100000) (hZ:Z≤w.heap.size):
  ∃v' w',(Builtin.append_ #[58,58] ty #[sv, .slice (some a) 1 c]).run Tryz.prog w= .ok v' w'∧OutRow Z w' v' (xs++ [x])∧AppFr Z w w':=by
 obtain ⟨i0,hi0,hz0,hs0,hy0⟩:=Xg8 Xoe
 have hl1: [x].length=1 *i0.size:=by rw[hs0];rfl
 have hnews:∀j v,[x][j]? =some v→w.cell? (a.add j)=some v:=by
  intro j v hv
  match j,hv with
  |0,hv=>simp at hv;subst hv;exact hx
  |j+1,hv=>simp at hv
 rcases h with ⟨rfl,rfl⟩|⟨g,cap,rfl,hg,hh,hnc,hcm,hc0⟩
 ·have hr:=run_append_nil (P:=Tryz.prog) w 58 ty 52 i0 .nilIface Tryz.underlying58 hi0 hz0 a 1 c [x] hl1 hnews (by omega) (by omega) (by rw[hy0];omega)
  refine ⟨_,_,hr, .inr ⟨w.heap.size,grownCap w 1 0 52,rfl,hZ, ?_, ?_, ?_, ?_⟩,Xof Z w _ hZ⟩
  ·rw[Xod]
   exact (Go.heap_alloc_new w.drew _).trans (by simp)
  ·have:=grownCap_ge w 1 0 52;simpa using this
  ·exact grownCap_le_maxLen w 1 0 52 (by unfold maxLen;omega)
  ·have:=grownCap_ge w 1 0 52;omega
 ·by_cases hroom:xs.length+1≤cap
  ·have hcs:(xs++List.replicate (cap-xs.length) Value.nilIface).toArray.size=cap:=by simp;omega
   have hr:=run_append_room (P:=Tryz.prog) w 58 ty 52 i0 Tryz.underlying58 hi0 g xs.length cap _ hh a 1 c [x] hl1 hnews (by intro u hu;simp at hu;subst hu;exact h1) hroom (by rw[hs0,hcs];simpa using hroom)
   have hrow:((xs++List.replicate (cap-xs.length) Value.nilIface).toArray.toList.take (xs.length *i0.size)++ [x]++(xs++List.replicate (cap-xs.length) Value.nilIface).toArray.toList.drop (xs.length *i0.size+ [x].length)).toArray=((xs++ [x])++List.replicate (cap-(xs++ [x]).length) Value.nilIface).toArray:=by
    rw[hs0]
    have e1:(xs++List.replicate (cap-xs.length) Value.nilIface).take (xs.length *1)=xs:=by rw[Nat.mul_one,List.take_left]
    have e2:(xs++List.replicate (cap-xs.length) Value.nilIface).drop (xs.length *1+ [x].length)=List.replicate (cap-(xs++ [x]).length) Value.nilIface:=by
     have e3:xs.length *1+ [x].length=xs.length+1:=by simp
     have e4:(xs++ [x]).length=xs.length+1:=by simp
     rw[e3,e4,List.drop_append,List.drop_eq_nil_of_le (by omega),List.nil_append,List.drop_replicate]
     congr 1
     omega
    simp only[List.toList_toArray,e1,e2]
   rw[hrow] at hr
   refine ⟨_,_,hr, .inr ⟨g,cap, ?_,hg,setRow_heap w g _ _ _ _ hh,by simpa using hroom,hcm,hc0⟩,⟨rfl,rfl,rfl,by simp,fun k hk=>setRow_other w g k _ (by omega),fun k cs t z ht hk=> ?_,fun b o v hv hb=> ?_⟩⟩
   ·simp
   ·rw[setRow_other w g k _ (fun e=>ht (by subst e;rw[hh] at hk;injection hk with hk;injection hk with _ e2 _;exact e2.symm))]
    exact hk
   ·by_cases e:b=g
    ·subst e
     rw[Xg (setRow_heap w b _ _ _ _ hh)]
     rw[Xg hh] at hb
     rw[List.getElem?_toArray] at hb⊢
     by_cases ho:o<xs.length
     ·rw[List.getElem?_append_left ho] at hb
      rw[List.append_assoc,List.getElem?_append_left ho]
      exact hb
     ·rw[List.getElem?_append_right (by omega)] at hb
      rw[List.getElem?_replicate] at hb
      split at hb
      ·injection hb with hb;exact absurd hb.symm hv
      ·cases hb
    ·exact (World.cell?_of_block (w:=w) (a:=⟨b,o,none⟩) (setRow_other w g b _ e)).trans hb
  ·have hce:cap=xs.length:=by omega
   have holds:∀j v,xs[j]? =some v→w.cell? ((⟨g,0,none⟩:Addr).add j)=some v:=by
    intro j v hv
    have hadd:(⟨g,0,none⟩:Addr).add j=⟨g,j,none⟩:=by unfold Addr.add;split<;>simp_all
    rw[hadd,Xg hh,List.getElem?_toArray]
    have hj:j<xs.length:=by
     rcases Nat.lt_or_ge j xs.length with h|h
     ·exact h
     ·rw[List.getElem?_eq_none h] at hv;cases hv
    rw[List.getElem?_append_left hj]
    exact hv
   have hr:=run_append_grow (P:=Tryz.prog) w 58 ty 52 i0 .nilIface Tryz.underlying58 hi0 hz0 ⟨g,0,none⟩ xs.length cap xs (by rw[hs0];simp) holds a 1 c [x] hl1 hnews (by omega) (by omega) (growslice_fits (by omega) (by rw[hy0];omega))
   refine ⟨_,_,hr, .inr ⟨w.heap.size,grownCap w (xs.length+1) cap 52, ?_,hZ, ?_, ?_, ?_, ?_⟩,Xof Z w _ hZ⟩
   ·simp
   ·rw[Xod]
    exact (Go.heap_alloc_new w.drew _).trans (by simp)
   ·have:=grownCap_ge w (xs.length+1) cap 52;simpa using this
   ·exact grownCap_le_maxLen w (xs.length+1) cap 52 (by unfold maxLen;omega)
   ·have:=grownCap_ge w (xs.length+1) cap 52;omega

theorem Xee {ops:Array Oper} {rest:List Oper} {o:Oper} {a:Act} {Q:Exit→Act→World→Prop} {w:World} (hgd:o.guard=none) (s x:Operand)
  (ho:o.op= .call {callee:= .builtin .append,args:= #[s,x],argTypes:= #[58,58]}) {Z:Nat} {sv:Value} {xs:List Value} (hs:a.eval s=sv) (hrow:OutRow Z w sv xs) (ad:Addr) (c:Nat) (y:Value)
  (hx:a.eval x= .slice (some ad) 1 c) (hy:w.cell? (ad.add 0)=some y) (h1:y.oneCell'=true) (hlen:xs.length≤100000) (hZ:Z≤w.heap.size)
  (h:∀v' w',OutRow Z w' v' (xs++ [y])→AppFr Z w w'→wpList Tryz.prog ops Q rest (a.put o.dst v') w'):wpList Tryz.prog ops Q (o::rest) a w:=by
 refine wpList_plain hgd fun K hK=> ?_
 obtain ⟨v',w',hr,h2,h3⟩:=Xuo (Z:=Z) hrow ad c y o.type hy h1 hlen hZ
 unfold Oper.wp execOp
 simp only[ho,resolve,invoke,builtin,Sem.run_bind,Sem.run_pure,Result.andThen_ok,List.map_toArray,List.map_cons,List.map_nil,hs,hx,hr]
 exact hK _ _ (h v' w' h2 h3)
theorem Xfn (t:TypeId) (y:Value):(Value.iface t y).oneCell'=true:=rfl
theorem Xos {xs:List Value} {x:Value} {outs:List (List VN)} {ns:List VN} {w:World} (hl:xs.length=outs.length) (h:∀j,j<outs.length→Rep w (Xl outs j) (xs.getD j undef)) (hx:Rep w ns x):∀j,j<(outs++ [ns]).length→Rep w (Xl (outs++ [ns]) j) ((xs++ [x]).getD j undef):=by
 intro j hj
 unfold Xl
 rw[List.getD_eq_getElem?_getD,List.getD_eq_getElem?_getD]
 by_cases e:j<outs.length
 ·rw[List.getElem?_append_left e,List.getElem?_append_left (by omega)]
  have:=h j e
  unfold Xl at this
  rwa [List.getD_eq_getElem?_getD,List.getD_eq_getElem?_getD] at this
 ·have hj':j=outs.length:=by simp at hj;omega
  subst hj'
  rw[List.getElem?_append_right (Nat.le_refl _),←hl,List.getElem?_append_right (Nat.le_refl _)]
  simpa using hx
theorem Xct {w:World} {b i:Nat} {cs:Array Value} {T:TypeId} {z:Nat×Nat} (h:w.heap[b]? =some (.cells cs T z)) (u:Value):(w.setCell ⟨b,i,none⟩ u).heap[b]? =some (.cells (cs.setIfInBounds i u) T z):=by
 have hlt:=Zo h
 simp[World.setCell,Array.getElem?_modify,h]
theorem St.hBZ {B Z E O:Nat} {fv:Value} {fs:List FN} {st:Xt} {w:World} (h:St B Z E O fv fs st w):B<Z:=Nat.lt_of_le_of_lt h.ev.hBE h.hEZ
theorem Xxh {B Z E O:Nat} {fv:Value} {fs:List FN} {st:Xt} {w W1 w2:World} {sv sv' x:Value} {xs:List Value} {ns:List VN} (hst:St B Z E O fv fs st w) (ho:OutsAt Z E O w st.2 sv xs) (hrep:Rep w ns x) (h1:Below w.heap.size w W1) (hr:OutRow Z w2 sv' (xs++ [x])) (hf:AppFr Z W1 w2) (hlt:st.2.length≠40):
  FrH Z E O w (w2.setCell ⟨O,0,none⟩ sv')∧St B Z E O fv fs (st.1,st.2++ [ns]) (w2.setCell ⟨O,0,none⟩ sv'):=by
 have hOl:=Zo ho.box
 have hOZ:=ho.lo
 have hZ:=hst.hZ
 have hEZ:=hst.hEZ
 have hBZ:=hst.hBZ
 have b1:W1.heap[O]? =some (.cells #[sv] 58 (0,0)):=(h1.block O hOl).trans ho.box
 have b2:w2.heap[O]? =some (.cells #[sv] 58 (0,0)):=hf.other O _ _ _ (by decide) b1
 have b3:(w2.setCell ⟨O,0,none⟩ sv').heap[O]? =some (.cells #[sv'] 58 (0,0)):=by
  have:=Xct (i:=0) b2 sv'
  simpa using this
 have hk:∀k,k≠O→(w2.setCell ⟨O,0,none⟩ sv').heap[k]? =w2.heap[k]? :=fun k hk=>Below.heap_setCell _ _ _ _ hk
 have fr:FrH Z E O w (w2.setCell ⟨O,0,none⟩ sv'):=by
  refine ⟨hf.os.trans h1.os,hf.tape.trans h1.tape,hf.output.trans h1.output, ?_,fun k hkZ hkE=> ?_,fun b o v hb1 hb2 hv hc=> ?_⟩
  ·have:=h1.size;have:=hf.size;simp;omega
  ·exact (hk k (by omega)).trans ((hf.block k hkZ).trans (h1.block k (by omega)))
  ·have c1:W1.cell? ⟨b,o,none⟩=some v:=(World.cell?_of_block (w:=w) (a:=⟨b,o,none⟩) (h1.block b (X8 hc))).trans hc
   exact (World.cell?_of_block (w:=w2) (a:=⟨b,o,none⟩) (hk b hb2)).trans (hf.cell b o v hv c1)
 have hbel:Below B w (w2.setCell ⟨O,0,none⟩ sv'):=fr.below hst.ev.hBE (by omega)
 have hrd:=hst.reads fr
 refine ⟨fr,⟨?_,hst.ev.nodes.below hbel,hst.ev.hBE,hst.ev.errs.below hbel⟩,⟨sv',xs++ [x],b3, ?_, ?_, ?_,hOZ,by have:=ho.few;simp;omega⟩,hEZ,Nat.le_trans hZ fr.size⟩
 ·exact (hk E (by omega)).trans ((hf.block E hEZ).trans ((h1.block E (by omega)).trans hst.ev.blk))
 ·rcases hr with ⟨e1,e2⟩|⟨g,cap,e,hg,hh,rest⟩
  ·exact .inl ⟨e1,e2⟩
  ·refine .inr ⟨g,cap,e,hg,(hk g (fun e=> ?_)).trans hh,rest⟩
   subst e
   rw[b2] at hh
   injection hh with hh
   injection hh with _ e2 _
   revert e2
   decide
 ·simp[ho.len]
 ·exact Xos ho.len (fun j hj=>(ho.rep j hj).reads hrd) (hrep.reads hrd)
set_option maxRecDepth 100000 in
theorem Xxi (B Z E O D:Nat) (fv:Value) (fs:List FN) (w0:World):HandOk B Z E O D fv fs w0 64 #[.pointer (some ⟨O,0,none⟩)] Xk:=by
 refine ⟨fun x w=>by kernel_rfl,fun ns st _=>by unfold Xk;split<;>exact Nat.le_refl _,fun w _ st x ns _ hst hrep=> ?_⟩
 show Calls Tryz.prog 64 #[x, .pointer (some ⟨O,0,none⟩)] w _
 obtain ⟨sv,xs,ho⟩:=hst.outs
 have HO:=Xa ho
 have HST:=Xa hst
 have HR:=Xa hrep
 obtain ⟨a,c,e⟩:=ho.row.slice
 have hlen:=ho.len
 have hfew:=ho.few
 have k1:w.cell? ⟨O,0,none⟩=some sv:=Xg ho.box 0
 have k2:w.frozen? ⟨O,0,none⟩=false:=by simp[World.frozen?,ho.box]
 obtain ⟨M,hM⟩:∃M,xs.length=M:=⟨_,rfl⟩
 have HM:=Xa hM
 rw[hM] at e hlen
 subst e
 obtain ⟨ty,y,rfl⟩:=hrep.iface
 clear ho hst hrep hM
 by_cases h40:M=40
 ·have HP:Hid (Xk ns st=(3,st)):=by unfold Hid Xk;rw[if_pos (by omega)]
  obtain ⟨a1,a0,p1,p2,p3,p4,p5⟩:=HST.out.ev.errs.now.outs
  have HRS:Hid (Rsn w 3 257 (.pointer (some a1))):=⟨a1,a0,rfl,rfl,p2,⟨fun e=>absurd e (by decide),fun e=>absurd e p3⟩,p4,p5⟩
  have h40':(M:Int)=40:=by omega
  rw[HP.out]
  clear p2 p3 p4 p5 hlen hfew
  subst h40
  go_enter Tryz.func64,Tryz.ntmps64
  go_wp2_with fail
  go_ret
  exact ⟨⟨_,rfl, .inr ⟨(show (3:Int)≠0 by decide),_,_,rfl,HRS.out⟩⟩,FrH.refl _ _ _ _,HST.out⟩
 ·have HP:Hid (Xk ns st=(0,(st.1,st.2++ [ns]))):=by unfold Hid Xk;rw[if_neg (by omega)]
  have hM40:¬(M:Int)=40:=by omega
  rw[HP.out]
  have hO:=HST.out.hO
  have hOl:=hO.1
  have hOZ:=hO.2
  have HZ:=Xa HST.out.hZ
  have HEZ:=Xa HST.out.hEZ
  clear hO
  obtain ⟨W1,hW1⟩:∃W1,w.alloc (.cells #[.iface ty y] 52)=W1:=⟨_,rfl⟩
  have HB1:Hid (Below w.heap.size w W1):=by rw[Hid,←hW1];exact (Below.refl _ _).alloc (Nat.le_refl _) _
  have k3:Hid (W1.cell? ((⟨w.heap.size,0,none⟩:Addr).add 0)=some (.iface ty y)):=by rw[Hid,←hW1];simp[Addr.add]
  have HOR:Hid (OutRow Z W1 (.slice a M c) xs):=HO.out.row.keep HEZ.out (.of_below HB1.out)
  have hsz:W1.heap.size=w.heap.size+1:=by rw[←hW1];simp
  have HW:=Xa hW1
  have HSZ:=Xa hsz
  have hO1:Hid (W1.heap[O]? =some (.cells #[.slice a M c] 58 (0,0))):=(HB1.out.block O hOl).trans HO.out.box
  have HL:Hid (M=st.2.length∧M≤39):=⟨hlen,by omega⟩
  clear hlen hsz hfew
  go_enter Tryz.func64,Tryz.ntmps64
  go_wp2_with (at_builtin;refine Xee (Z:=Z) (xs:=xs) rfl _ _ rfl rfl HOR.out ⟨w.heap.size,0,none⟩ 1 (.iface ty y) rfl k3.out (Xfn _ _) (by have:=HM.out;have:=HL.out.2;omega) (by have:=HZ.out;have:=HSZ.out;omega) ?_)
  intro sv' w2 hr2 hf2
  have HO2:Hid (w2.heap[O]? =some (.cells #[.slice a M c] 58 (0,0))):=hf2.other O _ _ _ (by decide) hO1.out
  have l1:w2.cell? ⟨O,0,none⟩=some (.slice a M c):=Xg HO2.out 0
  have l2:w2.frozen? ⟨O,0,none⟩=false:=by simp[World.frozen?,HO2.out]
  have HDONE:=Xa (Xxh HST.out HO.out HR.out HB1.out hr2 hf2 (by have:=HL.out;omega))
  obtain ⟨a2,c2,e2⟩:=hr2.slice
  obtain ⟨M2,hM2⟩:∃M2,(xs++ [Value.iface ty y]).length=M2:=⟨_,rfl⟩
  rw[hM2] at e2
  subst e2
  clear hr2 hf2 hM2
  go_wp2_with fail
  go_ret
  exact ⟨⟨_,rfl, .inl ⟨rfl,rfl⟩⟩,HDONE.out.1,HDONE.out.2⟩

theorem Wx (B:Nat) (w:World) (n:Int):TreeAt B w 1 (.mk 3 n ByteArray.empty [] []) (.iface 114 (.agg #[.int .i64 n])):=Or.inr (Or.inr (Or.inl ⟨rfl,rfl,rfl,rfl,rfl⟩))
set_option maxRecDepth 100000 in
theorem Xum (us vs:List VN) (h1:okB us=true) (h2:okB vs=true) (lo B lo' B':Nat) (hlo:lo≤B) (hlo':lo'≤B') (x y:Value) (w:World) (hx:ValG lo B w us us.length (us.length-1) x) (hy:ValG lo' B' w vs vs.length (vs.length-1) y) (hB:B≤w.heap.size) (hB':B'≤w.heap.size) (hE:Errs2 w) (hk3:(Xd us).kind=3) (hk3':(Xd vs).kind=3):
  Calls Tryz.prog 175 #[x,y] w fun e w'=>Jd (V6 us vs) (Kn us vs) e w'∧Below w.heap.size w w':=by
 obtain ⟨tx,vx,Fx,rfl,kx⟩:=Qk hx
 obtain ⟨ty,vy,Fy,rfl,ky⟩:=Qk hy
 have HKX:=Xa kx
 have HKY:=Xa ky
 have HE:=Xa hE
 have m1:=kx.meth
 have e1:=kx.enter
 have m2:=ky.meth
 have e2:=ky.enter
 clear kx ky hE
 have heq:((Xb us (us.length-1)).kind !=(Xb vs (vs.length-1)).kind)=false:=by
  have:(Xb us (us.length-1)).kind=(Xb vs (vs.length-1)).kind:=hk3.trans hk3'.symm
  simpa using this
 have ti1:=Gd
 have tbi:=Xjn
 have fli:=Xgf
 obtain ⟨p1,_,_,_⟩:=Xp h1
 obtain ⟨p2,_,_,_⟩:=Xp h2
 obtain ⟨f,hf⟩:∃f,us.length=f+1:=⟨us.length-1,by omega⟩
 obtain ⟨f',hf'⟩:∃f',vs.length=f'+1:=⟨vs.length-1,by omega⟩
 have n1:=Xaw h1 hk3
 have n2:=Xaw h2 hk3'
 have HM:=Xa (Xow h1 h2 ⟨hk3,hk3'⟩)
 have HDN:Hid (Gx us vs=Xu 3 ((Xd us).n-(Xd vs).n) ByteArray.empty):=rfl
 obtain ⟨nx,hnx⟩:∃nx,(Xd us).n=nx:=⟨_,rfl⟩
 obtain ⟨ny,hny⟩:∃ny,(Xd vs).n=ny:=⟨_,rfl⟩
 rw[hnx] at n1 HDN
 rw[hny] at n2 HDN
 have ex:vx= .agg #[.int .i64 nx]∧tx=114:=by
  have hx2:=hx
  rw[hf,show f+1-1=f by omega] at hx2
  have hr:Xb us f=Xd us:=by unfold Xd;rw[hf];rfl
  unfold ValG at hx2
  rw[hr,hnx] at hx2
  rcases hx2 with ⟨k,e⟩|⟨k,e⟩|⟨k,e⟩|⟨k,e⟩|⟨k,it,e,hi⟩|⟨k,ks,it,e,hs,hi⟩
  case inr.inr.inl=>cases e;exact ⟨rfl,rfl⟩
  all_goals exact absurd k (by omega)
 have ey:vy= .agg #[.int .i64 ny]∧ty=114:=by
  have hy2:=hy
  rw[hf',show f'+1-1=f' by omega] at hy2
  have hr:Xb vs f'=Xd vs:=by unfold Xd;rw[hf'];rfl
  unfold ValG at hy2
  rw[hr,hny] at hy2
  rcases hy2 with ⟨k,e⟩|⟨k,e⟩|⟨k,e⟩|⟨k,e⟩|⟨k,it,e,hi⟩|⟨k,ks,it,e,hs,hi⟩
  case inr.inr.inl=>cases e;exact ⟨rfl,rfl⟩
  all_goals exact absurd k (by omega)
 obtain ⟨rfl,rfl⟩:=ex
 obtain ⟨rfl,rfl⟩:=ey
 obtain ⟨n1a,n1b⟩:=n1
 obtain ⟨n2a,n2b⟩:=n2
 have HLF:=Xa (Xea (nx-ny) (by omega) (by omega))
 clear hx hy hnx hny p1 p2 hf hf'
 go_enter Tryz.func175,Tryz.ntmps175
 go_wp2_with fail
 refine (HKX.out.says _).mono ?_
 rintro e w1 ⟨rfl,hb1⟩
 have HB1:=Xa hb1
 clear hb1
 go_wp2_with fail
 refine (HKY.out.says _).mono ?_
 rintro e w2 ⟨rfl,hb2⟩
 have HB2:=Xa (HB1.out.trans (hb2.mono HB1.out.size))
 have HE2:=Xa ((HE.out.below HB2.out).below ((Below.refl _ _).alloc (Nat.le_refl _) (.cells #[.int .i64 nx] 114)))
 clear hb2
 go_wp2_with fail
 obtain ⟨W,hW⟩:∃W,w2.alloc (.cells #[.int .i64 nx] 114)=W:=⟨_,rfl⟩
 have c0:W.cell? ⟨w2.heap.size,0,none⟩=some (.int .i64 nx):=by rw[←hW];simp
 have HBW:Hid (Below w.heap.size w W):=by rw[Hid,←hW];exact HB2.out.alloc HB2.out.size _
 rw[hW] at HE2⊢
 have HED:=Xa (HE2.out.below (w':=W.drew) (Xaj rfl rfl rfl rfl))
 have HBD:Hid (Below w.heap.size w W.drew):=HBW.out.drew
 clear hW
 have HDW:Hid (IntKind.i64.wrap (nx-ny)=nx-ny):=by
  unfold Hid
  simp[IntKind.wrap,IntKind.signed,IntKind.bits]
  omega
 have HDM:Hid (Gx us vs=Xu 3 (IntKind.i64.wrap (nx-ny)) ByteArray.empty):=by rw[Hid,HDW.out];exact HDN.out
 have HLG:Hid (∀i,i<(Xu 3 (IntKind.i64.wrap (nx-ny)) ByteArray.empty).length→Fits (Xb (Xu 3 (IntKind.i64.wrap (nx-ny)) ByteArray.empty) i)):=by rw[Hid,HDW.out];exact HLF.out.2
 cases ok:okB (Xu 3 (IntKind.i64.wrap (nx-ny)) ByteArray.empty)
 ·go_region_law (refine Zv (by rfl) 142 _ _ (by rfl) (.iface 114 (.agg #[.int .i64 (IntKind.i64.wrap (nx-ny))])) (by rfl) (Qx _) (J7 1 (.mk 3 (IntKind.i64.wrap (nx-ny)) ByteArray.empty [] []) _ (Xu 3 (IntKind.i64.wrap (nx-ny)) ByteArray.empty) _ (Wx _ _ _) (Gp _) (by simp[Xu]) HLG.out HED.out ok) ?_;rintro e w3 ⟨te,xe,rfl,hrs,hq⟩;refine ⟨_,rfl, ?_⟩)
  all_goals
   have HB3:=Xa (HBD.out.trans (hq.mono HBD.out.size))
   clear hq
   go_wp2_with fail
   go_ret2
   exact ⟨Or.inr ⟨by rw[HM.out.2,HDM.out,ok];rfl,_,rfl,by rw[HM.out.1,HDM.out,ok];exact ⟨te,xe,rfl,hrs⟩⟩,HB3.out⟩
 ·go_region_law (refine Zv (by rfl) 142 _ _ (by rfl) (.iface 114 (.agg #[.int .i64 (IntKind.i64.wrap (nx-ny))])) (by rfl) (Qx _) (Jo 1 (.mk 3 (IntKind.i64.wrap (nx-ny)) ByteArray.empty [] []) _ (Xu 3 (IntKind.i64.wrap (nx-ny)) ByteArray.empty) _ (Wx _ _ _) (Gp _) (by simp[Xu]) HLG.out HED.out ok) ?_;rintro e w3 ⟨rfl,hq⟩;refine ⟨_,rfl, ?_⟩)
  all_goals
   have HB3:=Xa (HBD.out.trans (hq.mono HBD.out.size))
   clear hq
   go_wp2_with fail
   go_ret2
   exact ⟨Or.inl ⟨by rw[HM.out.1,HDM.out,ok];rfl,1,_,_,_,rfl,Wx _ _ _,by rw[HM.out.2,HDM.out,ok];exact Gp _⟩,HB3.out⟩

set_option maxRecDepth 100000 in
theorem X1l (us vs:List VN) (h1:okB us=true) (h2:okB vs=true) (lo B lo' B':Nat) (hlo:lo≤B) (hlo':lo'≤B') (x y:Value) (w:World) (hx:ValG lo B w us us.length (us.length-1) x) (hy:ValG lo' B' w vs vs.length (vs.length-1) y) (hB:B≤w.heap.size) (hB':B'≤w.heap.size) (hE:Errs2 w) (hk3:(Xd us).kind=3) (hk3':(Xd vs).kind=3):
  Calls Tryz.prog 174 #[x,y] w fun e w'=>Jd (Qn us vs) (Zu us vs) e w'∧Below w.heap.size w w':=by
 obtain ⟨tx,vx,Fx,rfl,kx⟩:=Qk hx
 obtain ⟨ty,vy,Fy,rfl,ky⟩:=Qk hy
 have HKX:=Xa kx
 have HKY:=Xa ky
 have HE:=Xa hE
 have m1:=kx.meth
 have e1:=kx.enter
 have m2:=ky.meth
 have e2:=ky.enter
 clear kx ky hE
 have heq:((Xb us (us.length-1)).kind !=(Xb vs (vs.length-1)).kind)=false:=by
  have:(Xb us (us.length-1)).kind=(Xb vs (vs.length-1)).kind:=hk3.trans hk3'.symm
  simpa using this
 have ti1:=Gd
 have tbi:=Xjn
 have fli:=Xgf
 obtain ⟨p1,_,_,_⟩:=Xp h1
 obtain ⟨p2,_,_,_⟩:=Xp h2
 obtain ⟨f,hf⟩:∃f,us.length=f+1:=⟨us.length-1,by omega⟩
 obtain ⟨f',hf'⟩:∃f',vs.length=f'+1:=⟨vs.length-1,by omega⟩
 have n1:=Xaw h1 hk3
 have n2:=Xaw h2 hk3'
 have HM:=Xa (Uf h1 h2 (by omega) (by omega) (by omega))
 rw[Xtl hk3] at HM
 have hz1 : ((Xb us (us.length - 1)).kind == 1) = false := by
  have : ¬ (Xb us (us.length - 1)).kind = 1 := by have : (Xb us (us.length - 1)).kind = 3 := hk3
                                                      omega
  simpa using this
 have hz2 : ((Xb vs (vs.length - 1)).kind == 1) = false := by
  have : ¬ (Xb vs (vs.length - 1)).kind = 1 := by have : (Xb vs (vs.length - 1)).kind = 3 := hk3'
                                                      omega
  simpa using this
 have HDN:Hid (Xjo us vs=Xu 3 ((Xd us).n+(Xd vs).n) ByteArray.empty):=rfl
 obtain ⟨nx,hnx⟩:∃nx,(Xd us).n=nx:=⟨_,rfl⟩
 obtain ⟨ny,hny⟩:∃ny,(Xd vs).n=ny:=⟨_,rfl⟩
 rw[hnx] at n1 HDN
 rw[hny] at n2 HDN
 have ex:vx= .agg #[.int .i64 nx]∧tx=114:=by
  have hx2:=hx
  rw[hf,show f+1-1=f by omega] at hx2
  have hr:Xb us f=Xd us:=by unfold Xd;rw[hf];rfl
  unfold ValG at hx2
  rw[hr,hnx] at hx2
  rcases hx2 with ⟨k,e⟩|⟨k,e⟩|⟨k,e⟩|⟨k,e⟩|⟨k,it,e,hi⟩|⟨k,ks,it,e,hs,hi⟩
  case inr.inr.inl=>cases e;exact ⟨rfl,rfl⟩
  all_goals exact absurd k (by omega)
 have ey:vy= .agg #[.int .i64 ny]∧ty=114:=by
  have hy2:=hy
  rw[hf',show f'+1-1=f' by omega] at hy2
  have hr:Xb vs f'=Xd vs:=by unfold Xd;rw[hf'];rfl
  unfold ValG at hy2
  rw[hr,hny] at hy2
  rcases hy2 with ⟨k,e⟩|⟨k,e⟩|⟨k,e⟩|⟨k,e⟩|⟨k,it,e,hi⟩|⟨k,ks,it,e,hs,hi⟩
  case inr.inr.inl=>cases e;exact ⟨rfl,rfl⟩
  all_goals exact absurd k (by omega)
 obtain ⟨rfl,rfl⟩:=ex
 obtain ⟨rfl,rfl⟩:=ey
 obtain ⟨n1a,n1b⟩:=n1
 obtain ⟨n2a,n2b⟩:=n2
 have HLF:=Xa (Xea (nx+ny) (by omega) (by omega))
 clear hx hy hnx hny p1 p2 hf hf'
 go_enter Tryz.func174,Tryz.ntmps174
 go_wp2_with fail
 refine (HKX.out.says _).mono ?_
 rintro e w1 ⟨rfl,hb1⟩
 have HB1:=Xa hb1
 clear hb1
 go_wp2_with fail
 refine (HKY.out.says _).mono ?_
 rintro e wa ⟨rfl,hba⟩
 have HBa:=Xa (HB1.out.trans (hba.mono HB1.out.size))
 clear hba
 go_wp2_with fail
 refine (HKX.out.says _).mono ?_
 rintro e wb ⟨rfl,hbb⟩
 have HBb:=Xa (HBa.out.trans (hbb.mono HBa.out.size))
 clear hbb
 go_wp2_with fail
 refine (HKY.out.says _).mono ?_
 rintro e w2 ⟨rfl,hb2⟩
 have HB2:=Xa (HBb.out.trans (hb2.mono HBb.out.size))
 have HE2:=Xa ((HE.out.below HB2.out).below ((Below.refl _ _).alloc (Nat.le_refl _) (.cells #[.int .i64 nx] 114)))
 clear hb2
 go_wp2_with fail
 obtain ⟨W,hW⟩:∃W,w2.alloc (.cells #[.int .i64 nx] 114)=W:=⟨_,rfl⟩
 have c0:W.cell? ⟨w2.heap.size,0,none⟩=some (.int .i64 nx):=by rw[←hW];simp
 have HBW:Hid (Below w.heap.size w W):=by rw[Hid,←hW];exact HB2.out.alloc HB2.out.size _
 rw[hW] at HE2⊢
 have HED:=Xa (HE2.out.below (w':=W.drew) (Xaj rfl rfl rfl rfl))
 have HBD:Hid (Below w.heap.size w W.drew):=HBW.out.drew
 clear hW
 have HDW:Hid (IntKind.i64.wrap (nx+ny)=nx+ny):=by
  unfold Hid
  simp[IntKind.wrap,IntKind.signed,IntKind.bits]
  omega
 have HDM:Hid (Xjo us vs=Xu 3 (IntKind.i64.wrap (nx+ny)) ByteArray.empty):=by rw[Hid,HDW.out];exact HDN.out
 have HLG:Hid (∀i,i<(Xu 3 (IntKind.i64.wrap (nx+ny)) ByteArray.empty).length→Fits (Xb (Xu 3 (IntKind.i64.wrap (nx+ny)) ByteArray.empty) i)):=by rw[Hid,HDW.out];exact HLF.out.2
 cases ok:okB (Xu 3 (IntKind.i64.wrap (nx+ny)) ByteArray.empty)
 ·go_region_law (refine Zv (by rfl) 142 _ _ (by rfl) (.iface 114 (.agg #[.int .i64 (IntKind.i64.wrap (nx+ny))])) (by rfl) (Qx _) (J7 1 (.mk 3 (IntKind.i64.wrap (nx+ny)) ByteArray.empty [] []) _ (Xu 3 (IntKind.i64.wrap (nx+ny)) ByteArray.empty) _ (Wx _ _ _) (Gp _) (by simp[Xu]) HLG.out HED.out ok) ?_;rintro e w3 ⟨te,xe,rfl,hrs,hq⟩;refine ⟨_,rfl, ?_⟩)
  all_goals
   have HB3:=Xa (HBD.out.trans (hq.mono HBD.out.size))
   clear hq
   go_wp2_with fail
   go_ret2
   exact ⟨Or.inr ⟨by rw[HM.out.2,HDM.out,ok];rfl,_,rfl,by rw[HM.out.1,HDM.out,ok];exact ⟨te,xe,rfl,hrs⟩⟩,HB3.out⟩
 ·go_region_law (refine Zv (by rfl) 142 _ _ (by rfl) (.iface 114 (.agg #[.int .i64 (IntKind.i64.wrap (nx+ny))])) (by rfl) (Qx _) (Jo 1 (.mk 3 (IntKind.i64.wrap (nx+ny)) ByteArray.empty [] []) _ (Xu 3 (IntKind.i64.wrap (nx+ny)) ByteArray.empty) _ (Wx _ _ _) (Gp _) (by simp[Xu]) HLG.out HED.out ok) ?_;rintro e w3 ⟨rfl,hq⟩;refine ⟨_,rfl, ?_⟩)
  all_goals
   have HB3:=Xa (HBD.out.trans (hq.mono HBD.out.size))
   clear hq
   go_wp2_with fail
   go_ret2
   exact ⟨Or.inl ⟨by rw[HM.out.1,HDM.out,ok];rfl,1,_,_,_,rfl,Wx _ _ _,by rw[HM.out.2,HDM.out,ok];exact Gp _⟩,HB3.out⟩

theorem Xig {vs:List VN} (h:okB vs=true) {lo B:Nat} {w w':World} {v:Value} (hlo:lo≤B) (hB:B≤w'.heap.size) (hk:∀k,k<B→w'.heap[k]? =w.heap[k]?) (hv:ValG lo B w vs vs.length (vs.length-1) v):
  TreeAt w'.heap.size w' vs.length (Xw vs vs.length (vs.length-1)) v∧Yi vs.length (Xw vs vs.length (vs.length-1)) 0=vs:=by
 obtain ⟨p1,p2,_,p4⟩:=Xp h
 refine ⟨TreeAt.keep hk hB (ValG.tree hlo p2 p4 p1.2 (by omega) hv), ?_⟩
 rw[(Uc h (by omega) (by omega)).1,Xfe h]
set_option maxRecDepth 100000 in
theorem Xtq (us vs:List VN) (h1:okB us=true) (h2:okB vs=true) (lo B lo' B':Nat) (hlo:lo≤B) (hlo':lo'≤B') (x y:Value) (w:World) (hx:ValG lo B w us us.length (us.length-1) x) (hy:ValG lo' B' w vs vs.length (vs.length-1) y) (hB:B≤w.heap.size) (hB':B'≤w.heap.size) (hE:Errs2 w) (hk:(Xd us).kind=1):
  Calls Tryz.prog 174 #[x,y] w fun e w'=>Jd (Qn us vs) (Zu us vs) e w'∧Below w.heap.size w w':=by
 obtain ⟨tx,vx,Fx,rfl,kx⟩:=Qk hx
 obtain ⟨ty,vy,Fy,rfl,ky⟩:=Qk hy
 have HKX:=Xa kx
 have HKY:=Xa ky
 have HE:=Xa hE
 have m1:=kx.meth
 have e1:=kx.enter
 have m2:=ky.meth
 have e2:=ky.enter
 clear kx ky hE
 have hz1:((Xb us (us.length-1)).kind==1)=true:=by simpa using (show (Xb us (us.length-1)).kind=1 from hk)
 have HM:=Xa (Xjq h1 h2 hk)
 have HW:=Xa (fun (w':World) (hb:Below w.heap.size w w')=>Xig (w':=w') h2 hlo' (Nat.le_trans hB' hb.size) (fun k hk=>hb.block k (by omega)) hy)
 clear hx hy
 go_enter Tryz.func174,Tryz.ntmps174
 go_wp2_with fail
 refine (HKX.out.says _).mono ?_
 rintro e w1 ⟨rfl,hb1⟩
 have HB1:=Xa hb1
 clear hb1
 go_wp2_with fail
 go_ret2
 exact ⟨Or.inl ⟨HM.out.1,_,_,_,_,rfl,(HW.out _ HB1.out).1,by rw[HM.out.2];exact (HW.out _ HB1.out).2⟩,HB1.out⟩
set_option maxRecDepth 100000 in
theorem Xqy (us vs:List VN) (h1:okB us=true) (h2:okB vs=true) (lo B lo' B':Nat) (hlo:lo≤B) (hlo':lo'≤B') (x y:Value) (w:World) (hx:ValG lo B w us us.length (us.length-1) x) (hy:ValG lo' B' w vs vs.length (vs.length-1) y) (hB:B≤w.heap.size) (hB':B'≤w.heap.size) (hE:Errs2 w) (hk1:(Xd us).kind≠1) (hk:(Xd vs).kind=1):
  Calls Tryz.prog 174 #[x,y] w fun e w'=>Jd (Qn us vs) (Zu us vs) e w'∧Below w.heap.size w w':=by
 obtain ⟨tx,vx,Fx,rfl,kx⟩:=Qk hx
 obtain ⟨ty,vy,Fy,rfl,ky⟩:=Qk hy
 have HKX:=Xa kx
 have HKY:=Xa ky
 have HE:=Xa hE
 have m1:=kx.meth
 have e1:=kx.enter
 have m2:=ky.meth
 have e2:=ky.enter
 clear kx ky hE
 have hz1:((Xb us (us.length-1)).kind==1)=false:=by simpa using (show ¬(Xb us (us.length-1)).kind=1 from hk1)
 have hz2:((Xb vs (vs.length-1)).kind==1)=true:=by simpa using (show (Xb vs (vs.length-1)).kind=1 from hk)
 have HM:=Xa (Xjr h1 h2 hk1 hk)
 have HW:=Xa (fun (w':World) (hb:Below w.heap.size w w')=>Xig (w':=w') h1 hlo (Nat.le_trans hB hb.size) (fun k hk=>hb.block k (by omega)) hx)
 clear hx hy
 go_enter Tryz.func174,Tryz.ntmps174
 go_wp2_with fail
 refine (HKX.out.says _).mono ?_
 rintro e w1 ⟨rfl,hb1⟩
 have HB1:=Xa hb1
 clear hb1
 go_wp2_with fail
 refine (HKY.out.says _).mono ?_
 rintro e wa ⟨rfl,hba⟩
 have HBa:=Xa (HB1.out.trans (hba.mono HB1.out.size))
 clear hba
 go_wp2_with fail
 go_ret2
 exact ⟨Or.inl ⟨HM.out.1,_,_,_,_,rfl,(HW.out _ HBa.out).1,by rw[HM.out.2];exact (HW.out _ HBa.out).2⟩,HBa.out⟩
set_option maxRecDepth 100000 in
theorem Xtr (us vs:List VN) (h1:okB us=true) (h2:okB vs=true) (lo B lo' B':Nat) (hlo:lo≤B) (hlo':lo'≤B') (x y:Value) (w:World) (hx:ValG lo B w us us.length (us.length-1) x) (hy:ValG lo' B' w vs vs.length (vs.length-1) y) (hB:B≤w.heap.size) (hB':B'≤w.heap.size) (hE:Errs2 w) (hk1:(Xd us).kind≠1) (hk2:(Xd vs).kind≠1) (hk:(Xd us).kind≠(Xd vs).kind):
  Calls Tryz.prog 174 #[x,y] w fun e w'=>Jd (Qn us vs) (Zu us vs) e w'∧Below w.heap.size w w':=by
 obtain ⟨tx,vx,Fx,rfl,kx⟩:=Qk hx
 obtain ⟨ty,vy,Fy,rfl,ky⟩:=Qk hy
 have HKX:=Xa kx
 have HKY:=Xa ky
 have HE:=Xa hE
 have m1:=kx.meth
 have e1:=kx.enter
 have m2:=ky.meth
 have e2:=ky.enter
 clear kx ky hE
 have hz1:((Xb us (us.length-1)).kind==1)=false:=by simpa using (show ¬(Xb us (us.length-1)).kind=1 from hk1)
 have hz2:((Xb vs (vs.length-1)).kind==1)=false:=by simpa using (show ¬(Xb vs (vs.length-1)).kind=1 from hk2)
 have hne:((Xb us (us.length-1)).kind !=(Xb vs (vs.length-1)).kind)=true:=by
  have:¬(Xb us (us.length-1)).kind=(Xb vs (vs.length-1)).kind:=hk
  simpa using this
 have HM:=Xa (Xc5 h1 h2 hk1 hk2 (fun h=>hk h.1))
 clear hx hy
 go_enter Tryz.func174,Tryz.ntmps174
 go_wp2_with fail
 refine (HKX.out.says _).mono ?_
 rintro e w1 ⟨rfl,hb1⟩
 have HB1:=Xa hb1
 clear hb1
 go_wp2_with fail
 refine (HKY.out.says _).mono ?_
 rintro e wa ⟨rfl,hba⟩
 have HBa:=Xa (HB1.out.trans (hba.mono HB1.out.size))
 clear hba
 go_wp2_with fail
 refine (HKX.out.says _).mono ?_
 rintro e wb ⟨rfl,hbb⟩
 have HBb:=Xa (HBa.out.trans (hbb.mono HBa.out.size))
 clear hbb
 go_wp2_with fail
 refine (HKY.out.says _).mono ?_
 rintro e w2 ⟨rfl,hb2⟩
 have HB2:=Xa (HBb.out.trans (hb2.mono HBb.out.size))
 have HE2:=Xa (HE.out.below HB2.out)
 clear hb2
 go_wp2_with fail
 refine (Zy _ HE2.out.errs).mono ?_
 rintro e w3 ⟨⟨v,rfl,te,xe,rfl,hrs⟩,rfl⟩
 go_wp2_with fail
 go_ret2
 exact ⟨Or.inr ⟨HM.out.2,_,rfl,by rw[HM.out.1];exact ⟨te,xe,rfl,hrs⟩⟩,HB2.out⟩
theorem Xnb (x:Value) (w:World):(Instr.typeAssert (.iface 113 x) 52 116 true).run Tryz.prog w= .ok (.tuple #[.agg #[.string ByteArray.empty], .bool false]) w:=by kernel_rfl
theorem Xqz (x:Value) (w:World):(Instr.typeAssert (.iface 113 x) 52 118 true).run Tryz.prog w= .ok (.tuple #[.agg #[.slice none 0 0, .slice none 0 0], .bool false]) w:=by kernel_rfl
set_option maxRecDepth 100000 in
theorem Xts (us vs : List VN) (h1 : okB us = true) (h2 : okB vs = true) (lo B lo' B' : Nat) (hlo : lo ≤ B) (hlo' : lo' ≤ B') (x y : Value) (w : World) (hx : ValG lo B w us us.length (us.length - 1) x) (hy : ValG lo' B' w vs vs.length (vs.length - 1) y) (hB : B ≤ w.heap.size) (hB' : B' ≤ w.heap.size) (hE : Errs2 w) (hk : (Xd us).kind = 2) (hk' : (Xd vs).kind = 2) :
  Calls Tryz.prog 174 #[x,y] w fun e w'=>Jd (Qn us vs) (Zu us vs) e w'∧Below w.heap.size w w':=by
 obtain ⟨tx,vx,Fx,rfl,kx⟩:=Qk hx
 obtain ⟨ty,vy,Fy,rfl,ky⟩:=Qk hy
 have HKX:=Xa kx
 have HKY:=Xa ky
 have HE:=Xa hE
 have m1:=kx.meth
 have e1:=kx.enter
 have m2:=ky.meth
 have e2:=ky.enter
 clear kx ky hE
 have hz1:((Xb us (us.length-1)).kind==1)=false:=by simpa using (show ¬(Xb us (us.length-1)).kind=1 from (by have:(Xb us (us.length-1)).kind=2:=hk;omega))
 have hz2:((Xb vs (vs.length-1)).kind==1)=false:=by simpa using (show ¬(Xb vs (vs.length-1)).kind=1 from (by have:(Xb vs (vs.length-1)).kind=2:=hk';omega))
 have heq:((Xb us (us.length-1)).kind !=(Xb vs (vs.length-1)).kind)=false:=by
  have:(Xb us (us.length-1)).kind=(Xb vs (vs.length-1)).kind:=hk.trans hk'.symm
  simpa using this
 have HM:=Xa (Xc5 h1 h2 (by omega) (by omega) (fun h=>h.2 hk))
 obtain ⟨p1,_,_,_⟩:=Xp h1
 obtain ⟨f,hf⟩:∃f,us.length=f+1:=⟨us.length-1,by omega⟩
 have et:tx=113:=by
  have hx2:=hx
  rw[hf,show f+1-1=f by omega] at hx2
  have hr : (Xb us f).kind = 2 := by have : Xd us = Xb us f := by unfold Xd; rw [hf]; rfl
                                         rw[←this];exact hk
  rcases hx2 with ⟨k,e⟩|⟨k,e⟩|⟨k,e⟩|⟨k,e⟩|⟨k,it,e,hi⟩|⟨k,ks,it,e,hs,hi⟩
  case inr.inl=>cases e;rfl
  all_goals exact absurd k (by omega)
 subst et
 have tb1:=Xg6
 have tb2:=Xfk
 have tb3:=Xnb
 have tb4:=Xqz
 clear hx hy p1 hf
 go_enter Tryz.func174,Tryz.ntmps174
 go_wp2_with fail
 refine (HKX.out.says _).mono ?_
 rintro e w1 ⟨rfl,hb1⟩
 have HB1:=Xa hb1
 clear hb1
 go_wp2_with fail
 refine (HKY.out.says _).mono ?_
 rintro e wa ⟨rfl,hba⟩
 have HBa:=Xa (HB1.out.trans (hba.mono HB1.out.size))
 clear hba
 go_wp2_with fail
 refine (HKX.out.says _).mono ?_
 rintro e wb ⟨rfl,hbb⟩
 have HBb:=Xa (HBa.out.trans (hbb.mono HBa.out.size))
 clear hbb
 go_wp2_with fail
 refine (HKY.out.says _).mono ?_
 rintro e w2 ⟨rfl,hb2⟩
 have HB2:=Xa (HBb.out.trans (hb2.mono HBb.out.size))
 have HE2:=Xa (HE.out.below HB2.out)
 clear hb2
 go_wp2_with fail
 refine (Zy _ HE2.out.errs).mono ?_
 rintro e w3 ⟨⟨v,rfl,te,xe,rfl,hrs⟩,rfl⟩
 go_wp2_with fail
 go_ret2
 exact ⟨Or.inr ⟨HM.out.2,_,rfl,by rw[HM.out.1];exact ⟨te,xe,rfl,hrs⟩⟩,HB2.out⟩

theorem Xf7 (B:Nat) (w:World) (s:ByteArray):TreeAt B w 1 (.mk 4 0 s [] []) (.iface 116 (.agg #[.string s])):=Or.inr (Or.inr (Or.inr (Or.inl ⟨rfl,rfl,rfl,rfl,rfl⟩)))
theorem Xia (s:ByteArray):Yi 1 (.mk 4 0 s [] []) 0=Xu 4 0 s:=rfl
theorem Xsf (x:Value) (w:World):(Instr.typeAssert (.iface 116 x) 52 114 true).run Tryz.prog w= .ok (.tuple #[.agg #[.int .i64 0], .bool false]) w:=by kernel_rfl
theorem X2d (s:ByteArray) (h:s.size≤140737488355328):∀i,i<(Xu 4 0 s).length→Fits (Xb (Xu 4 0 s) i):=by
 intro i hi
 obtain rfl:i=0:=by simp[Xu] at hi;omega
 refine ⟨by simp[Xu,Xb],fun i hi=>absurd hi (by simp[Xu,Xb]),by simp[Xu,Xb],fun i hi=>absurd hi (by simp[Xu,Xb]),by simpa [Xu,Xb] using h,by simp[Xu,Xb],by simp[Xu,Xb],by simp[Xu,Xb],by simp[Xu,Xb]⟩
theorem Xy5 {us:List VN} (hok:okB us=true) (hk:(Xd us).kind=4):(Xd us).s.size≤60:=by
 rcases J3 hok with k|k|⟨k,a,b⟩|⟨k,a⟩|⟨k,a⟩|⟨k,a⟩
 ·omega
 ·omega
 ·omega
 ·exact a
 ·omega
 ·omega
set_option maxRecDepth 100000 in
theorem Xy6 (us vs:List VN) (h1:okB us=true) (h2:okB vs=true) (lo B lo' B':Nat) (hlo:lo≤B) (hlo':lo'≤B') (x y:Value) (w:World) (hx:ValG lo B w us us.length (us.length-1) x) (hy:ValG lo' B' w vs vs.length (vs.length-1) y) (hB:B≤w.heap.size) (hB':B'≤w.heap.size) (hE:Errs2 w) (hk4:(Xd us).kind=4) (hk4':(Xd vs).kind=4):
  Calls Tryz.prog 174 #[x,y] w fun e w'=>Jd (Qn us vs) (Zu us vs) e w'∧Below w.heap.size w w':=by
 obtain ⟨tx,vx,Fx,rfl,kx⟩:=Qk hx
 obtain ⟨ty,vy,Fy,rfl,ky⟩:=Qk hy
 have HKX:=Xa kx
 have HKY:=Xa ky
 have HE:=Xa hE
 have m1:=kx.meth
 have e1:=kx.enter
 have m2:=ky.meth
 have e2:=ky.enter
 clear kx ky hE
 have heq:((Xb us (us.length-1)).kind !=(Xb vs (vs.length-1)).kind)=false:=by
  have:(Xb us (us.length-1)).kind=(Xb vs (vs.length-1)).kind:=hk4.trans hk4'.symm
  simpa using this
 have ti0:=Xsf
 have ti1:=Uv
 have tbi:=Xtk
 have fli:=Xna
 obtain ⟨p1,_,_,_⟩:=Xp h1
 obtain ⟨p2,_,_,_⟩:=Xp h2
 obtain ⟨f,hf⟩:∃f,us.length=f+1:=⟨us.length-1,by omega⟩
 obtain ⟨f',hf'⟩:∃f',vs.length=f'+1:=⟨vs.length-1,by omega⟩
 have n1:=Xy5 h1 hk4
 have n2:=Xy5 h2 hk4'
 have HM:=Xa (Uf h1 h2 (by omega) (by omega) (by omega))
 rw[Xqm hk4] at HM
 have hz1 : ((Xb us (us.length - 1)).kind == 1) = false := by
  have : ¬ (Xb us (us.length - 1)).kind = 1 := by have : (Xb us (us.length - 1)).kind = 4 := hk4
                                                      omega
  simpa using this
 have hz2 : ((Xb vs (vs.length - 1)).kind == 1) = false := by
  have : ¬ (Xb vs (vs.length - 1)).kind = 1 := by have : (Xb vs (vs.length - 1)).kind = 4 := hk4'
                                                      omega
  simpa using this
 have HDN:Hid (Xjp us vs=Xu 4 0 ((Xd us).s++(Xd vs).s)):=rfl
 obtain ⟨nx,hnx⟩:∃nx,(Xd us).s=nx:=⟨_,rfl⟩
 obtain ⟨ny,hny⟩:∃ny,(Xd vs).s=ny:=⟨_,rfl⟩
 rw[hnx] at n1 HDN
 rw[hny] at n2 HDN
 have ex:vx= .agg #[.string nx]∧tx=116:=by
  have hx2:=hx
  rw[hf,show f+1-1=f by omega] at hx2
  have hr:Xb us f=Xd us:=by unfold Xd;rw[hf];rfl
  unfold ValG at hx2
  rw[hr,hnx] at hx2
  rcases hx2 with ⟨k,e⟩|⟨k,e⟩|⟨k,e⟩|⟨k,e⟩|⟨k,it,e,hi⟩|⟨k,ks,it,e,hs,hi⟩
  case inr.inr.inr.inl=>cases e;exact ⟨rfl,rfl⟩
  all_goals exact absurd k (by omega)
 have ey:vy= .agg #[.string ny]∧ty=116:=by
  have hy2:=hy
  rw[hf',show f'+1-1=f' by omega] at hy2
  have hr:Xb vs f'=Xd vs:=by unfold Xd;rw[hf'];rfl
  unfold ValG at hy2
  rw[hr,hny] at hy2
  rcases hy2 with ⟨k,e⟩|⟨k,e⟩|⟨k,e⟩|⟨k,e⟩|⟨k,it,e,hi⟩|⟨k,ks,it,e,hs,hi⟩
  case inr.inr.inr.inl=>cases e;exact ⟨rfl,rfl⟩
  all_goals exact absurd k (by omega)
 obtain ⟨rfl,rfl⟩:=ex
 obtain ⟨rfl,rfl⟩:=ey
 have HLF:=Xa (X2d (nx++ny) (by rw[ByteArray.size_append];omega))
 have hcat:∀w,(Op.stringOp .add nx ny).run Tryz.prog w= .ok (.string (nx++ny)) w:=fun w=>run_string_add_sum w nx ny (by omega)
 have hsum:¬(nx.size+ny.size>9223372036854775807):=by omega
 clear hx hy hnx hny p1 p2 hf hf'
 go_enter Tryz.func174,Tryz.ntmps174
 go_wp2_with fail
 refine (HKX.out.says _).mono ?_
 rintro e w1 ⟨rfl,hb1⟩
 have HB1:=Xa hb1
 clear hb1
 go_wp2_with fail
 refine (HKY.out.says _).mono ?_
 rintro e wa ⟨rfl,hba⟩
 have HBa:=Xa (HB1.out.trans (hba.mono HB1.out.size))
 clear hba
 go_wp2_with fail
 refine (HKX.out.says _).mono ?_
 rintro e wb ⟨rfl,hbb⟩
 have HBb:=Xa (HBa.out.trans (hbb.mono HBa.out.size))
 clear hbb
 go_wp2_with fail
 refine (HKY.out.says _).mono ?_
 rintro e w2 ⟨rfl,hb2⟩
 have HB2:=Xa (HBb.out.trans (hb2.mono HBb.out.size))
 have HE2:=Xa ((HE.out.below HB2.out).below ((Below.refl _ _).alloc (Nat.le_refl _) (.cells #[.string nx] 116)))
 clear hb2
 go_wp2_with fail
 obtain ⟨W,hW⟩:∃W,w2.alloc (.cells #[.string nx] 116)=W:=⟨_,rfl⟩
 have c0:W.cell? ⟨w2.heap.size,0,none⟩=some (.string nx):=by rw[←hW];simp
 have HBW:Hid (Below w.heap.size w W):=by rw[Hid,←hW];exact HB2.out.alloc HB2.out.size _
 rw[hW] at HE2⊢
 have HED:=Xa (HE2.out.below (w':=W.drew) (Xaj rfl rfl rfl rfl))
 have HBD:Hid (Below w.heap.size w W.drew):=HBW.out.drew
 clear hW
 have HDM:=HDN
 have HLG:=HLF
 cases ok:okB (Xu 4 0 (nx++ny))
 ·go_region_law (refine Zv (by rfl) 142 _ _ (by rfl) (.iface 116 (.agg #[.string (nx++ny)])) (by rfl) (Qx _) (J7 1 (.mk 4 0 (nx++ny) [] []) _ (Xu 4 0 (nx++ny)) _ (Xf7 _ _ _) (Xia _) (by simp[Xu]) HLG.out HED.out ok) ?_;rintro e w3 ⟨te,xe,rfl,hrs,hq⟩;refine ⟨_,rfl, ?_⟩)
  all_goals
   have HB3:=Xa (HBD.out.trans (hq.mono HBD.out.size))
   clear hq
   go_wp2_with fail
   go_ret2
   exact ⟨Or.inr ⟨by rw[HM.out.2,HDM.out,ok];rfl,_,rfl,by rw[HM.out.1,HDM.out,ok];exact ⟨te,xe,rfl,hrs⟩⟩,HB3.out⟩
 ·go_region_law (refine Zv (by rfl) 142 _ _ (by rfl) (.iface 116 (.agg #[.string (nx++ny)])) (by rfl) (Qx _) (Jo 1 (.mk 4 0 (nx++ny) [] []) _ (Xu 4 0 (nx++ny)) _ (Xf7 _ _ _) (Xia _) (by simp[Xu]) HLG.out HED.out ok) ?_;rintro e w3 ⟨rfl,hq⟩;refine ⟨_,rfl, ?_⟩)
  all_goals
   have HB3:=Xa (HBD.out.trans (hq.mono HBD.out.size))
   clear hq
   go_wp2_with fail
   go_ret2
   exact ⟨Or.inl ⟨by rw[HM.out.1,HDM.out,ok];rfl,1,_,_,_,rfl,Xf7 _ _ _,by rw[HM.out.2,HDM.out,ok];exact Xia _⟩,HB3.out⟩
end Go.Proofs.YtdjddneidbddpaaGreatDoor
