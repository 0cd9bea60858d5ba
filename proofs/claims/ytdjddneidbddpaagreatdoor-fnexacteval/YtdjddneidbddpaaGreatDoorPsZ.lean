import Derived.Test.YtdjddneidbddpaaGreatDoorStbS
import Derived.Deep.AppendLies
import Derived.Maps.AppendAt
import Derived.Laws.OwnMore
import Derived.Test.YtdjddneidbddpaaGreatDoorByP
import Derived.Test.YtdjddneidbddpaaGreatDoorStepI
import Derived.Test.YtdjddneidbddpaaGreatDoorProg
import Derived.Deep.OwnRows
import Derived.KernelRfl
import Derived.Deep.QuietTactic
import Derived.BigQuiet
import Derived.WalkSmall
import Derived.Deep.RegionWith
namespace Go.Proofs.YtdjddneidbddpaaGreatDoor
set_option linter.unusedSectionVars false
set_option maxHeartbeats 16000000
open Go.RowKit
set_option linter.unusedSimpArgs false
set_option linter.unusedVariables false
def Kb (vs:List VN) (KV IV:Nat→Value) (j:Nat):Value:=
 if j%5=0 then .int .i64 (Xb vs (j/5)).kind
 else if j%5=1 then .int .i64 (Xb vs (j/5)).n
 else if j%5=2 then .string (Xb vs (j/5)).s
 else if j%5=3 then KV (j/5)
 else IV (j/5)
def Kl (vs:List VN) (KV IV:Nat→Value):List Value:=(List.range (vs.length *5)).map (Kb vs KV IV)
def upd (F:Nat→Value) (k:Nat) (v:Value) (i:Nat):Value:=if i=k then v else F i
theorem Vi (F:Nat→Value) (k:Nat) (v:Value):upd F k v k=v:=if_pos rfl
theorem Z3 (F:Nat→Value) {k i:Nat} (v:Value) (h:i≠k):upd F k v i=F i:=if_neg h
theorem Wv {vs:List VN} {x:VN} {i:Nat} (h:i<vs.length):Xb (vs++ [x]) i=Xb vs i:=by
 unfold Xb;rw[List.getD_eq_getElem?_getD,List.getD_eq_getElem?_getD,List.getElem?_append_left h]
theorem Wa {vs:List VN} {x:VN}:Xb (vs++ [x]) vs.length=x:=by
 unfold Xb;rw[List.getD_eq_getElem?_getD];simp
theorem Xdg (vs:List VN) (x:VN) (KV IV:Nat→Value) (kv iv:Value):
  Kl (vs++ [x]) (upd KV vs.length kv) (upd IV vs.length iv)=Kl vs KV IV++ [.int .i64 x.kind, .int .i64 x.n, .string x.s,kv,iv]:=by
 unfold Kl
 rw[List.length_append,show (vs.length+ [x].length) *5=vs.length *5+5 by simp;omega,List.range_add,List.map_append]
 congr 1
 ·apply List.map_congr_left
  intro j hj
  have hj':j<vs.length *5:=List.mem_range.1 hj
  unfold Kb
  rw[Wv (show j/5<vs.length by omega),Z3 _ _ (show j/5≠vs.length by omega),Z3 _ _ (show j/5≠vs.length by omega)]
 ·have e0:∀k,k<5→(vs.length *5+k)%5=k:=fun k hk=>by omega
  have e1:∀k,k<5→(vs.length *5+k)/5=vs.length:=fun k hk=>by omega
  have r5:List.range 5= [0,1,2,3,4]:=rfl
  rw[r5]
  simp only[List.map_cons,List.map_nil,Kb,e0 0 (by omega),e0 1 (by omega),e0 2 (by omega),e0 3 (by omega),e0 4 (by omega),e1 0 (by omega),e1 1 (by omega),e1 2 (by omega),e1 3 (by omega),e1 4 (by omega),Wa,Vi]
  simp
theorem Yo {w:World} {b b' e e' s s' n n':Nat} {v v':Value} {xs xs':List Value} (h:w.ownsRow b e s v n xs) (h':w.ownsRow b' e' s' v' n' xs') (hne:e≠e'):v.ownBlock=none∨v.ownBlock≠v'.ownBlock:=by
 rcases h.2 with ⟨rfl,_⟩|⟨g,cap,cur,rfl,_,hg,_⟩
 ·exact Or.inl rfl
 ·right
  rcases h'.2 with ⟨rfl,_⟩|⟨g',cap',cur',rfl,_,hg',_⟩
  ·simp[Value.ownBlock]
  ·intro e
   have e2:g=g':=by simpa [Value.ownBlock] using e
   subst e2
   rw[hg] at hg'
   simp at hg'
   exact hne hg'.2
structure Nest (base:Nat) (w:World) (v:Value) (vs:List VN) (KV IV:Nat→Value):Prop where
 row:w.ownsRow base 75 5 v vs.length (Kl vs KV IV)
 rk:∀i,i<vs.length→w.ownsRow base 9 1 (KV i) (Xb vs i).keys.length ((Xb vs i).keys.map .string)
 ri:∀i,i<vs.length→w.ownsRow base 2 1 (IV i) (Xb vs i).kids.length ((Xb vs i).kids.map (.int .i64))
 dkk:∀i j,i<vs.length→j<vs.length→i≠j→∀x,(KV i).ownBlock=some x→(KV j).ownBlock≠some x
 dii:∀i j,i<vs.length→j<vs.length→i≠j→∀x,(IV i).ownBlock=some x→(IV j).ownBlock≠some x
theorem Nest.nil (base:Nat) (w:World) (KV IV:Nat→Value):Nest base w (.slice none 0 0) [] KV IV:=
 ⟨World.ownsRow_nil _ _ _ _,fun i hi=>absurd hi (by simp),fun i hi=>absurd hi (by simp),fun i j hi=>absurd hi (by simp),fun i j hi=>absurd hi (by simp)⟩
theorem Nest.kept {base:Nat} {w w':World} {v:Value} {vs:List VN} {KV IV:Nat→Value} {row:Option Nat} (h:Nest base w v vs KV IV) (hg:w.grownBy w' row) (hv:v.ownBlock=none∨v.ownBlock≠row)
  (hk:∀i,i<vs.length→(KV i).ownBlock=none∨(KV i).ownBlock≠row) (hi:∀i,i<vs.length→(IV i).ownBlock=none∨(IV i).ownBlock≠row):Nest base w' v vs KV IV:=
 ⟨h.row.kept hg hv,fun i hi'=>(h.rk i hi').kept hg (hk i hi'),fun i hi'=>(h.ri i hi').kept hg (hi i hi'),h.dkk,h.dii⟩
theorem Nest.snoc {base:Nat} {w w':World} {v v':Value} {vs:List VN} {KV IV:Nat→Value} {x:VN} {kv iv:Value} (h:Nest base w v vs KV IV)
  (hk:w.ownsRow base 9 1 kv x.keys.length (x.keys.map .string)) (hi:w.ownsRow base 2 1 iv x.kids.length (x.kids.map (.int .i64)))
  (fk:∀i,i<vs.length→∀y,kv.ownBlock=some y→(KV i).ownBlock≠some y) (fi:∀i,i<vs.length→∀y,iv.ownBlock=some y→(IV i).ownBlock≠some y)
  (hown:w'.ownsRow base 75 5 v' (vs.length+1) (Kl vs KV IV++ [.int .i64 x.kind, .int .i64 x.n, .string x.s,kv,iv])) (hg:w.grownBy w' v.ownBlock):
  Nest base w' v' (vs++ [x]) (upd KV vs.length kv) (upd IV vs.length iv):=by
 refine ⟨?_,fun i hi'=> ?_,fun i hi'=> ?_,fun i j hi' hj' e y=> ?_,fun i j hi' hj' e y=> ?_⟩
 ·rw[Xdg];simpa using hown
 ·by_cases e:i=vs.length
  ·subst e;rw[Vi,Wa];exact hk.kept hg (Yo hk h.row (by decide))
  ·have hl:i<vs.length:=by simp at hi';omega
   rw[Z3 _ _ e,Wv hl];exact (h.rk i hl).kept hg (Yo (h.rk i hl) h.row (by decide))
 ·by_cases e:i=vs.length
  ·subst e;rw[Vi,Wa];exact hi.kept hg (Yo hi h.row (by decide))
  ·have hl:i<vs.length:=by simp at hi';omega
   rw[Z3 _ _ e,Wv hl];exact (h.ri i hl).kept hg (Yo (h.ri i hl) h.row (by decide))
 ·simp at hi' hj'
  by_cases e1:i=vs.length
  ·subst e1
   rw[Vi,Z3 _ _ (fun e2=>e e2.symm)]
   exact fk j (by omega) y
  ·by_cases e2:j=vs.length
   ·subst e2
    rw[Vi,Z3 _ _ e1]
    intro h1 h2
    exact fk i (by omega) y h2 h1
   ·rw[Z3 _ _ e1,Z3 _ _ e2]
    exact h.dkk i j (by omega) (by omega) e y
 ·simp at hi' hj'
  by_cases e1:i=vs.length
  ·subst e1
   rw[Vi,Z3 _ _ (fun e2=>e e2.symm)]
   exact fi j (by omega) y
  ·by_cases e2:j=vs.length
   ·subst e2
    rw[Vi,Z3 _ _ e1]
    intro h1 h2
    exact fi i (by omega) y h2 h1
   ·rw[Z3 _ _ e1,Z3 _ _ e2]
    exact h.dii i j (by omega) (by omega) e y
theorem Jr (vs:List VN) (KV IV:Nat→Value) {j:Nat} (h:j<vs.length *5):(Kl vs KV IV)[j]? =some (Kb vs KV IV j):=by
 unfold Kl;rw[List.getElem?_map,List.getElem?_range h];rfl
theorem Xb7 {base:Nat} {w:World} {v:Value} {l:List ByteArray} (h:w.ownsRow base 9 1 v l.length (l.map .string)) (h1:l.length≤8796093022208) (h2:∀i,i<l.length→(Xh l i).size≤140737488355328):StrsAt w.heap.size w v l:=by
 refine ⟨h1,h2, ?_⟩
 rcases Nat.eq_zero_or_pos l.length with e|e
 ·rcases h.2 with ⟨rfl,_⟩|⟨g,cap,cur,rfl,_⟩
  ·exact ⟨none,0,by rw[e],fun hp=>by omega⟩
  ·exact ⟨_,cap,rfl,fun hp=>by omega⟩
 ·obtain ⟨g,cap,rfl,_,hlt⟩:=h.form e
  refine ⟨_,cap,rfl,fun _=>⟨g,0,rfl,hlt,fun i hi=> ?_⟩⟩
  rw[Nat.zero_add,h.cellAt i (by omega)]
  simp[Xh,hi]
theorem X0b {base:Nat} {w:World} {v:Value} {l:List Int} (h:w.ownsRow base 2 1 v l.length (l.map (.int .i64))) (h1:l.length≤17592186044416) (h2:∀i,i<l.length→-9223372036854775808≤Xm l i∧Xm l i≤9223372036854775807):IntsAt w.heap.size w v l:=by
 refine ⟨h1,h2, ?_⟩
 rcases Nat.eq_zero_or_pos l.length with e|e
 ·rcases h.2 with ⟨rfl,_⟩|⟨g,cap,cur,rfl,_⟩
  ·exact ⟨none,0,by rw[e],fun hp=>by omega⟩
  ·exact ⟨_,cap,rfl,fun hp=>by omega⟩
 ·obtain ⟨g,cap,rfl,_,hlt⟩:=h.form e
  refine ⟨_,cap,rfl,fun _=>⟨g,0,rfl,hlt,fun i hi=> ?_⟩⟩
  rw[Nat.zero_add,h.cellAt i (by omega)]
  simp[Xm,hi]
theorem Nest.nodes {base:Nat} {w:World} {v:Value} {vs:List VN} {KV IV:Nat→Value} (h:Nest base w v vs KV IV) (hn:vs.length≤1759218604416) (hf:∀i,i<vs.length→Fits (Xb vs i)):NodesAt w.heap.size w v vs:=by
 refine ⟨hn, ?_⟩
 rcases Nat.eq_zero_or_pos vs.length with e|e
 ·rcases h.row.2 with ⟨rfl,_⟩|⟨g,cap,cur,rfl,_⟩
  ·exact ⟨none,0,by rw[e],fun hp=>by omega⟩
  ·exact ⟨_,cap,rfl,fun hp=>by omega⟩
 ·obtain ⟨g,cap,rfl,_,hlt⟩:=h.row.form e
  refine ⟨_,cap,rfl,fun _=>⟨g,0,rfl,hlt,fun i hi=>⟨KV i,IV i, ?_⟩⟩⟩
  have f:=hf i hi
  have q:∀k,k<5→(i *5+k)%5=k∧(i *5+k)/5=i:=fun k hk=>by omega
  have q0:=q 0 (by omega)
  rw[Nat.add_zero] at q0
  rw[Nat.zero_add]
  refine ⟨?_, ?_, ?_, ?_, ?_,⟨Xb7 (h.rk i hi) f.keysN f.keysS,X0b (h.ri i hi) f.kidsN f.kidsB,f.size,f.klo,f.khi,f.nlo,f.nhi⟩⟩
  ·rw[h.row.cellAt _ (by omega),Jr _ _ _ (by omega),Kb,q0.1,q0.2];rfl
  ·rw[h.row.cellAt _ (by omega),Jr _ _ _ (by omega),Kb,(q 1 (by omega)).1,(q 1 (by omega)).2];rfl
  ·rw[h.row.cellAt _ (by omega),Jr _ _ _ (by omega),Kb,(q 2 (by omega)).1,(q 2 (by omega)).2];rfl
  ·rw[h.row.cellAt _ (by omega),Jr _ _ _ (by omega),Kb,(q 3 (by omega)).1,(q 3 (by omega)).2];rfl
  ·rw[h.row.cellAt _ (by omega),Jr _ _ _ (by omega),Kb,(q 4 (by omega)).1,(q 4 (by omega)).2];rfl
theorem Xhu {base e s g n cap:Nat} {w:World} {xs:List Value} (h:w.ownsRow base e s (.slice (some ⟨g,0,none⟩) n cap) n xs):WRow w g (n *s):=by
 intro j hj
 refine ⟨⟨xs[j]'(by have:=h.1;omega), ?_⟩,h.frozenAt j⟩
 rw[h.cellAt j hj,List.getElem?_eq_getElem]
theorem Nest.marky {base g cap:Nat} {w:World} {vs:List VN} {KV IV:Nat→Value} (h:Nest base w (.slice (some ⟨g,0,none⟩) vs.length cap) vs KV IV) (hn:vs.length≤1048576) (hk:∀i,i<vs.length→(Xb vs i).keys.length≤1048576∧(Xb vs i).kids.length≤1048576):
  Marky base w g vs.length (fun i=>(Xb vs i).keys.length) (fun i=>(Xb vs i).kids.length) (fun i=>((KV i).ownBlock).getD 0) (fun i=>((IV i).ownBlock).getD 0):=by
 have hl:=h.row.lt g rfl
 have q:∀i k,k<5→(i *5+k)%5=k∧(i *5+k)/5=i:=fun i k hk=>by omega
 have fk:∀i,i<vs.length→0<(Xb vs i).keys.length→∃y c,KV i= .slice (some ⟨y,0,none⟩) (Xb vs i).keys.length c∧base≤y∧y<w.heap.size:=fun i hi hp=>(h.rk i hi).form hp
 have fi:∀i,i<vs.length→0<(Xb vs i).kids.length→∃y c,IV i= .slice (some ⟨y,0,none⟩) (Xb vs i).kids.length c∧base≤y∧y<w.heap.size:=fun i hi hp=>(h.ri i hi).form hp
 refine ⟨hl.1,hl.2,hn,Xhu h.row,hk,fun i hi=> ?_,fun i hi=> ?_,fun i hi=>⟨fun hp=> ?_,fun hp=> ?_⟩,fun i j hi hj e hp hp'=> ?_,fun i j hi hj hp hp'=> ?_,fun i j hi hj e hp hp'=> ?_⟩
 ·have hc:w.cell? ⟨g,i *5+3,none⟩=some (KV i):=by
   rw[h.row.cellAt _ (by omega),Jr _ _ _ (by omega),Kb,(q i 3 (by omega)).1,(q i 3 (by omega)).2];rfl
  rcases Nat.eq_zero_or_pos (Xb vs i).keys.length with e|e
  ·rcases (h.rk i hi).2 with ⟨ek,_⟩|⟨y,c,cur,ek,_⟩
   ·exact ⟨none,0,by rw[hc,ek,e],fun hp=>by omega⟩
   ·exact ⟨_,c,by rw[hc,ek],fun hp=>by omega⟩
  ·obtain ⟨y,c,ek,h1,h2⟩:=fk i hi e
   have hr:=h.rk i hi
   rw[ek] at hr
   refine ⟨_,c,by rw[hc,ek],fun _=> ?_⟩
   rw[ek]
   exact ⟨rfl,h1,h2,by have:=Xhu hr;simpa [Value.ownBlock] using this⟩
 ·have hc:w.cell? ⟨g,i *5+4,none⟩=some (IV i):=by
   rw[h.row.cellAt _ (by omega),Jr _ _ _ (by omega),Kb,(q i 4 (by omega)).1,(q i 4 (by omega)).2];rfl
  rcases Nat.eq_zero_or_pos (Xb vs i).kids.length with e|e
  ·rcases (h.ri i hi).2 with ⟨ek,_⟩|⟨y,c,cur,ek,_⟩
   ·exact ⟨none,0,by rw[hc,ek,e],fun hp=>by omega⟩
   ·exact ⟨_,c,by rw[hc,ek],fun hp=>by omega⟩
  ·obtain ⟨y,c,ek,h1,h2⟩:=fi i hi e
   have hr:=h.ri i hi
   rw[ek] at hr
   refine ⟨_,c,by rw[hc,ek],fun _=> ?_⟩
   rw[ek]
   exact ⟨rfl,h1,h2,by have:=Xhu hr;simpa [Value.ownBlock] using this⟩
 ·obtain ⟨y,c,ek,_⟩:=fk i hi hp
  have:=Yo (h.rk i hi) h.row (by decide)
  rw[ek] at this⊢
  simpa [Value.ownBlock] using this
 ·obtain ⟨y,c,ek,_⟩:=fi i hi hp
  have:=Yo (h.ri i hi) h.row (by decide)
  rw[ek] at this⊢
  simpa [Value.ownBlock] using this
 ·obtain ⟨y,c,ek,_⟩:=fk i hi hp
  obtain ⟨y',c',ek',_⟩:=fk j hj hp'
  have:=h.dkk i j hi hj e y (by rw[ek];rfl)
  rw[ek'] at this
  simp only[ek,ek']
  intro e2
  exact this (by simp[Value.ownBlock] at e2⊢;exact e2.symm)
 ·obtain ⟨y,c,ek,_⟩:=fk i hi hp
  obtain ⟨y',c',ek',_⟩:=fi j hj hp'
  have:=Yo (h.rk i hi) (h.ri j hj) (by decide)
  rw[ek,ek'] at this
  simp only[ek,ek']
  simpa [Value.ownBlock] using this
 ·obtain ⟨y,c,ek,_⟩:=fi i hi hp
  obtain ⟨y',c',ek',_⟩:=fi j hj hp'
  have:=h.dii i j hi hj e y (by rw[ek];rfl)
  rw[ek'] at this
  simp only[ek,ek']
  intro e2
  exact this (by simp[Value.ownBlock] at e2⊢;exact e2.symm)

def Xu (kind n:Int) (s:ByteArray):List VN:= [{kind:=kind,n:=n,s:=s,keys:= [],kids:= []}]
theorem Vy (w:World) (kind n:Int) (s:ByteArray):Nest w.heap.size (w.alloc (.cells #[.int .i64 kind, .int .i64 n, .string s, .slice none 0 0, .slice none 0 0] 75)) (.slice (some ⟨w.heap.size,0,none⟩) 1 1) (Xu kind n s) (fun _=> .slice none 0 0) (fun _=> .slice none 0 0):=by
 refine ⟨?_,fun i hi=> ?_,fun i hi=> ?_,fun i j hi hj hne=> ?_,fun i j hi hj hne=> ?_⟩
 ·have:=World.ownsRow_lit (base:=w.heap.size) (e:=75) (size:=5) w #[.int .i64 kind, .int .i64 n, .string s, .slice none 0 0, .slice none 0 0] 1 (Nat.le_refl _) (by simp[maxLen]) rfl
  have eu:upd (fun _=>Value.slice none 0 0) 0 (.slice none 0 0)=fun _=> .slice none 0 0:=by funext i;unfold upd;split<;>rfl
  have e:Kl (Xu kind n s) (fun _=> .slice none 0 0) (fun _=> .slice none 0 0)= [.int .i64 kind, .int .i64 n, .string s, .slice none 0 0, .slice none 0 0]:=by
   have h:=Xdg [] {kind:=kind,n:=n,s:=s,keys:= [],kids:= []} (fun _=> .slice none 0 0) (fun _=> .slice none 0 0) (.slice none 0 0) (.slice none 0 0)
   simp only[List.length_nil,eu,List.nil_append] at h
   exact h
  rw[e]
  exact this
 ·obtain rfl:i=0:=by simp[Xu] at hi;omega
  exact World.ownsRow_nil _ _ _ _
 ·obtain rfl:i=0:=by simp[Xu] at hi;omega
  exact World.ownsRow_nil _ _ _ _
 ·simp[Xu] at hi hj;omega
 ·simp[Xu] at hi hj;omega

theorem Xe0 {P:Program} {w:World} (base:Nat) (t ty e:TypeId) (i:TypeInfo) (size c:Nat) (ht:P.underlying t=some (.slice e)) (hi:P.info? e=some i)
  (v:Value) (n:Nat) (xs:List Value) (hown:w.ownsRow base e size v n xs):
  (Builtin.append_ #[t,t] ty #[v, .slice none 0 c]).run P w= .ok v w:=by
 rcases hown.2 with ⟨rfl,rfl⟩|⟨g,cap,cur,rfl,_,_,hnc,_⟩
 ·simp[Builtin.append_,run_underlying ht,sizeOf,typeInfo,hi,Builtin.lenOf,Builtin.firstCells]
 ·simp[Builtin.append_,run_underlying ht,sizeOf,typeInfo,hi,Builtin.lenOf,Builtin.firstCells,hnc,storeCells]
theorem Ye {P:Program} {w:World} {ops:Array Oper} {rest:List Oper} {o:Oper} {a:Act} {Q:Exit→Act→World→Prop} (hgd:o.guard=none) (s x:Operand) (t:TypeId)
  (ho:o.op= .call {callee:= .builtin .append,args:= #[s,x],argTypes:= #[t,t]})
  (base:Nat) (e:TypeId) (i:TypeInfo) (z:Value) (size bytes:Nat) (ht:P.underlying t=some (.slice e)) (hi:P.info? e=some i) (hz:i.zero=some z)
  (hsize:i.size=size) (hby:i.bytes=bytes) (hzs:z.cells.size=size) (hsz:0<size)
  (v:Value) (n:Nat) (xs:List Value) (hs:a.eval s=v) (hown:w.ownsRow base e size v n xs)
  (ax:Option Addr) (m c:Nat) (news:List Value) (hx:a.eval x= .slice ax m c) (hl:news.length=m *size) (hsrc:0<m→∃ad,ax=some ad∧∀j u,news[j]? =some u→w.cell? (ad.add j)=some u) (h1:∀u∈news,u.oneCell'=true)
  (h63:n+m≤maxLen) (hbytes:(n+m) *bytes≤140737488355328) (hbase:base≤w.heap.size)
  (h:∀v' w',w'.ownsRow base e size v' (n+m) (xs++news)→w.grownBy w' v.ownBlock→(v'.ownBlock=v.ownBlock∨v'.ownBlock=some w.heap.size)→wpList P ops Q rest (a.put o.dst v') w'):wpList P ops Q (o::rest) a w:=by
 rcases Nat.eq_zero_or_pos m with e0|e0
 ·subst e0
  obtain rfl:news= []:=List.eq_nil_of_length_eq_zero (by simpa using hl)
  cases ax with
  | none =>
   refine wpList_plain hgd fun K hK=> ?_
   have hrun:=Xe0 (P:=P) (w:=w) base t o.type e i size c ht hi v n xs hown
   unfold Oper.wp
   simp[execOp,ho,resolve,invoke,builtin,hs,hx,hrun,Result.andThen]
   exact hK _ _ (h v w (by simpa using hown) ⟨rfl,rfl,rfl,Nat.le_refl _,fun _ _ _=>rfl⟩ (Or.inl rfl))
  | some ad =>
   exact wpList_append_own_at w hgd s x t ho base e i z size bytes ht hi hz hsize hby hzs hsz v n xs hs hown ad 0 c [] hx hl (fun j u hj=>by simp at hj) h1 h63 hbytes hbase (fun v' w' h2 h3 _ h5=>h v' w' h2 h3 h5)
 ·obtain ⟨ad,rfl,hc⟩:=hsrc e0
  exact wpList_append_own_at w hgd s x t ho base e i z size bytes ht hi hz hsize hby hzs hsz v n xs hs hown ad m c news hx hl hc h1 h63 hbytes hbase (fun v' w' h2 h3 _ h5=>h v' w' h2 h3 h5)

def From (base:Nat) (w w':World):Prop:=w.heap.size≤w'.heap.size∧∀c,base≤c→c<w.heap.size→w'.heap[c]? =w.heap[c]?
theorem From.below {base:Nat} {a w w':World} (h:From base a w) (hb:Below w.heap.size w w'):From base a w':=
 ⟨Nat.le_trans h.1 hb.size,fun c h1 h2=>(hb.block c (by have:=h.1;omega)).trans (h.2 c h1 h2)⟩
theorem From.refl (base:Nat) (w:World):From base w w:=⟨Nat.le_refl _,fun _ _ _=>rfl⟩
theorem From.mono {base base':Nat} {w w':World} (h:From base w w') (hb:base≤base'):From base' w w':=⟨h.1,fun c h1 h2=>h.2 c (by omega) h2⟩
theorem Vj {w w':World} {base e s n:Nat} {v:Value} {xs:List Value} (h:w.ownsRow base e s v n xs) (hf:From base w w'):w'.ownsRow base e s v n xs:=by
 refine ⟨h.1, ?_⟩
 rcases h.2 with hn|⟨g,cap,cur,rfl,hg,hgg,rest⟩
 ·exact .inl hn
 ·exact .inr ⟨g,cap,cur,rfl,hg,(hf.2 g hg (h.lt g rfl).2).trans hgg,rest⟩

set_option maxRecDepth 100000 in
theorem Xuh (R:Int→Int→Prop) (cf:Int→Int→Int) (g N cap:Nat) (w0:World) (c1 c2:Value) (f:Nat→Int) (a m b:Nat) (w:World) (h:Asked R cf g N w0 c1 c2 f a m b w) (hm:a+1<m) (hb:b=m+1):
  Calls Tryz.prog 217 #[.slice (some ⟨g,0,none⟩) N cap, .int .i64 a, .int .i64 m, .int .i64 b, .func (.func 213) #[] #[c1,c2]] w fun e w'=>e= .returned (.tuple #[])∧∃f',w'.rowIs g 3 N (Yq f')∧Merged R f f' a b∧Sw g w0 w':=by
 have H:=Xa h
 have hab:=h.mb
 have hbN:=h.bN
 have hNN:=h.NN
 clear h
 have hone:((m:Int)-(a:Int)==1)=false:=by rw[beq_eq_false_iff_ne];omega
 have hone2:((b:Int)-(m:Int)==1)=true:=by rw[beq_iff_eq];omega
 have h1b:b≤m+1:=by omega
 have HB1:=Xa hb
 clear hb
 go_enter Tryz.func217,Tryz.ntmps217
 go_wp2_with fail
 go_loopw [14,15] (fun vi vj wr=>∃i j:Nat,vi= .int .i64 i∧vj= .int .i64 j∧a≤i∧i≤j∧j≤m∧Hid (∀p,a≤p→p<i→R (f p) (f m))∧Hid (∀p,j≤p→p<m→R (f m) (f p))∧wr.rowIs g 3 N (Yq f)∧Sw g w0 wr) (fun vi vj _=>(intOf vj).toNat-(intOf vi).toNat)
 case atStart=>exact ⟨a,m,rfl,rfl,Nat.le_refl _,by omega,Nat.le_refl _,fun q h1 h2=>absurd h1 (by omega),fun q h1 h2=>absurd h1 (by omega),H.out.row,H.out.sw⟩
 case round=>
  obtain ⟨i,j,rfl,rfl,hai,hij,hjm,HL,HG,hrow,hsw⟩:=hrel
  by_cases hlt:i<j
  case pos=>
   obtain ⟨x,hx⟩:∃x:Nat,x=(i+j)/2:=⟨_,rfl⟩
   have x1:i≤x:=by omega
   have x2:x<j:=by omega
   have p0:((i:Int)+(j:Int))/2=(x:Int):=by omega
   have hxN:x<N:=by omega
   have hmN:m<N:=by omega
   have d1:=hrow.cell hxN
   have d2:=hrow.cell hmN
   unfold Yq at d1 d2
   obtain ⟨v11,v12⟩:=H.out.val x hxN
   obtain ⟨v21,v22⟩:=H.out.val m hmN
   have HLT:=Xa (H.out.cx x m (by omega) (by omega) (Nat.le_refl _) (by omega))
   have HCR:=Xa (H.out.cr (f x) (f m) HLT.out)
   have HROW:=Xa hrow
   have HSW:=Xa hsw
   clear hx hrow hsw
   by_cases hc:cf (f m) (f x)<0
   ·have HG2:Hid (∀p,x≤p→p<m→R (f m) (f p)):=fun p h1 h2=>(Gy H.out.tot H.out.r1 (p:=x) (q:=p) (by omega) h1 h2).2 (HCR.out.1 hc)
    go_wp2_with fail
    go_quiet ((go_at_call 213;exact Calls.quiet_of (H.out.cmp _ (HSW.out.drewN _) (f m) (f x) v21 v22 v11 v12)))
    go_wp2_with fail
    go_roundw
    case rel=>exact ⟨i,x,rfl,rfl,hai,x1,by omega,HL,HG2,HROW.out,HSW.out.drewN nq⟩
    case measure=>simp[intOf];omega
   ·have HL2:Hid (∀p,a≤p→p<x+1→R (f p) (f m)):=fun p h1 h2=>(Gy H.out.tot H.out.r1 (p:=p) (q:=x) h1 (by omega) (by omega)).1 (Xaz H.out.tot HLT.out (fun hr=>hc (HCR.out.2 hr)))
    have hcd:(!decide (cf (f m) (f x)<0))=true:=by simp;omega
    go_wp2_with fail
    go_quiet ((go_at_call 213;exact Calls.quiet_of (H.out.cmp _ (HSW.out.drewN _) (f m) (f x) v21 v22 v11 v12)))
    go_wp2_with fail
    go_roundw
    case rel=>exact ⟨x+1,j,by go_num,rfl,by omega,by omega,hjm,HL2,HG,HROW.out,HSW.out.drewN nq⟩
    case measure=>simp[intOf];omega
  case neg=>
  obtain rfl:i=j:=by omega
  have HM:Hid (Merged R f (rot i m b f) a b):=Xoh hai hjm (by omega) H.out.r1 H.out.r2 (fun p q h1 h2 h3 h4=>by
    obtain rfl:q=m:=by omega
    exact HL.out p h1 h2) (fun p q h1 h2 h3 h4=>by
    obtain rfl:q=m:=by omega
    exact HG.out p h1 h2)
  obtain ⟨W0,rfl⟩:∃W0,W0=wr:=⟨_,rfl⟩
  have HROW:=Xa hrow
  have HSW:=Xa hsw
  clear hrow hsw hlt
  go_wp2_with fail
  go_loopw [17] (fun vk wr=>∃k:Nat,vk= .int .i64 k∧i≤k∧k≤m∧wr.rowIs g 3 N (Yq (rot k m (m+1) f))∧Sw g w0 wr) (fun vk _=>(intOf vk).toNat-i)
  case atStart=>exact ⟨m,rfl,hjm,Nat.le_refl _,HROW.out.congr fun p _=>by unfold Yq;rw[Xb9 (Or.inl rfl) (Nat.le_refl _) (by omega)],HSW.out⟩
  case round=>
   obtain ⟨k,rfl,hik,hkm,hrow,hsw⟩:=hrel
   by_cases hlt:i<k
   ·obtain ⟨z,hz⟩:∃z,k=z+1:=⟨k-1,by omega⟩
    have q1:=hrow.cell (i:=k) (by omega)
    have q2:=hrow.cell (i:=z) (by omega)
    have f1:=hrow.frozen k
    have f2:=hrow.frozen z
    unfold Yq at q1 q2
    have hkN:k<N:=by omega
    have hzN:z<N:=by omega
    have e1:(k:Int)-1=(z:Int):=by omega
    obtain ⟨u,hu⟩:∃u,rot k m (m+1) f k=u:=⟨_,rfl⟩
    obtain ⟨v,hv⟩:∃v,rot k m (m+1) f z=v:=⟨_,rfl⟩
    rw[hu] at q1
    rw[hv] at q2
    have hne1:k≠z:=by omega
    have hne2:z≠k:=by omega
    have HNEW:Hid (((wr.setCell ⟨g,k,none⟩ (.int .i64 v)).setCell ⟨g,z,none⟩ (.int .i64 u)).drew.rowIs g 3 N (Yq (rot z m (m+1) f))):=by
     refine (Xcu hrow k z v u).congr fun p _=> ?_
     unfold Yq
     rw[hz] at hu hv⊢
     rw[←Xpf (show z+1≤m by omega) f p,hu,hv]
    have HO:=Xa ((hsw.set k (.int .i64 v)).set z (.int .i64 u)).drew
    have HZ:=Xa hz
    clear hrow hsw hu hv hz
    go_wp2_with fail
    go_region
    all_goals
     go_wp2_with fail
     go_roundw
     case rel=>exact ⟨z,by go_num,by have:=HZ.out;omega,by have:=HZ.out;omega,HNEW.out,HO.out⟩
     case measure=>have:=HZ.out;simp[intOf];omega
   ·obtain rfl:k=i:=by omega
    go_wp2_with fail
    refine ⟨rfl, .tuple #[],results_none rfl _ _ _,rfl,_,hrow, ?_,hsw⟩
    rw[←HB1.out]
    exact HM.out

def Xgq (R:Int→Int→Prop) (cf:Int→Int→Int) (g N cap:Nat) (w0:World) (c1 c2:Value) (f:Nat→Int) (a m b:Nat) (w:World):Prop:=
 Calls Tryz.prog 217 #[.slice (some ⟨g,0,none⟩) N cap, .int .i64 a, .int .i64 m, .int .i64 b, .func (.func 213) #[] #[c1,c2]] w fun e w'=>e= .returned (.tuple #[])∧∃f',w'.rowIs g 3 N (Yq f')∧Merged R f f' a b∧Sw g w0 w'
set_option maxRecDepth 100000 in
theorem Xve (R : Int → Int → Prop) (cf : Int → Int → Int) (g N cap : Nat) (w0 : World) (c1 c2 : Value) (f : Nat → Int) (a m b : Nat) (w : World) (h : Asked R cf g N w0 c1 c2 f a m b w) (hm : a + 1 < m) (hb : m + 1 < b)
  (ih:∀f' a' m' b' w',b'-a'<b-a→Asked R cf g N w0 c1 c2 f' a' m' b' w'→Xgq R cf g N cap w0 c1 c2 f' a' m' b' w'):Xgq R cf g N cap w0 c1 c2 f a m b w:=by
 unfold Xgq
 have H:=Xa h
 have IH:=Xa ih
 have hbN:=h.bN
 have hNN:=h.NN
 clear h ih
 have hone:((m:Int)-(a:Int)==1)=false:=by rw[beq_eq_false_iff_ne];omega
 have hone2:((b:Int)-(m:Int)==1)=false:=by rw[beq_eq_false_iff_ne];omega
 obtain ⟨mid,hmid⟩:∃mid:Nat,mid=(a+b)/2:=⟨_,rfl⟩
 have p0:((a:Int)+(b:Int))/2=(mid:Int):=by omega
 have g1:a<mid:=by omega
 have g2:mid<b:=by omega
 have g3:mid+mid≤a+b:=by omega
 have HMO:=Xa (X44 (show a<m by omega) (show m<b by omega) hmid)
 clear hmid
 obtain ⟨n,hn⟩:∃n,n=mid+m:=⟨_,rfl⟩
 have en:(mid:Int)+(m:Int)=(n:Int):=by omega
 obtain ⟨n1,hn1⟩:∃n1,n=n1+1:=⟨n-1,by omega⟩
 have en1:(n:Int)-1=(n1:Int):=by omega
 have hnN:n≤2199023255552:=by omega
 have HN:=Xa hn
 have HN1:=Xa hn1
 clear hn hn1
 -- both ways into the search
 have HLOOP:Hid (∀(lo hi:Nat),MidS a m b lo hi n→MidS a m b lo hi n):=fun _ _ h=>h
 by_cases hmm:mid<m
 case pos =>
  have hmm':(mid:Int)<(m:Int):=by omega
  obtain ⟨lo,hlo⟩:∃lo,lo=mid+m-b:=⟨_,rfl⟩
  have elo:(n:Int)-(b:Int)=(lo:Int):=by have:=HN.out;omega
  have HM:Hid (MidS a m b lo mid n):=by rw[Hid,hlo,HN.out];exact HMO.out.1 hmm
  clear hlo
  have u1:=HM.out.la
  have u2:=HM.out.hm
  have u3:=HM.out.le
  have u4:=HM.out.nm.1
  have u5:=HM.out.nm.2.1
  have u6:=HM.out.nm.2.2
  go_enter Tryz.func217,Tryz.ntmps217
  go_wp2_with fail
  go_loopw [20,21] (fun vi vj wr=>∃i j:Nat,vi= .int .i64 i∧vj= .int .i64 j∧lo≤i∧i≤j∧j≤mid∧Hid (∀c,lo≤c→c<i→R (f c) (f (n-1-c)))∧Hid (∀c,j≤c→c<mid→R (f (n-1-c)) (f c))∧wr.rowIs g 3 N (Yq f)∧Sw g w0 wr) (fun vi vj _=>(intOf vj).toNat-(intOf vi).toNat)
  case atStart=>exact ⟨lo,mid,by go_num,rfl,Nat.le_refl _,u3,Nat.le_refl _,fun q h1 h2=>absurd h1 (by omega),fun q h1 h2=>absurd h1 (by omega),H.out.row,H.out.sw⟩
  case round =>
   obtain ⟨i,j,rfl,rfl,hai,hij,hjm,HL,HG,hrow,hsw⟩:=hrel
   by_cases hlt:i<j
   case pos=>
    obtain ⟨x,hx⟩:∃x:Nat,x=(i+j)/2:=⟨_,rfl⟩
    have x1:i≤x:=by omega
    have x2:x<j:=by omega
    have px:((i:Int)+(j:Int))/2=(x:Int):=by omega
    have hup:=HM.out.up x (by omega) (by omega)
    obtain ⟨y,hy⟩:∃y,y=n-1-x:=⟨_,rfl⟩
    have ey:(n1:Int)-(x:Int)=(y:Int):=by have:=HN1.out;omega
    have hxN:x<N:=by omega
    have hyN:y<N:=by omega
    have d1:=hrow.cell hyN
    have d2:=hrow.cell hxN
    unfold Yq at d1 d2
    obtain ⟨v11,v12⟩:=H.out.val y hyN
    obtain ⟨v21,v22⟩:=H.out.val x hxN
    have HLT:=Xa (H.out.cx x y (by omega) (by omega) (by omega) (by omega))
    have HCR:=Xa (H.out.cr (f x) (f y) HLT.out)
    have HY:=Xa hy
    have HROW:=Xa hrow
    have HSW:=Xa hsw
    clear hx hrow hsw hy hup
    by_cases hc:cf (f y) (f x)<0
    ·have HG2:Hid (∀c,x≤c→c<mid→R (f (n-1-c)) (f c)):=Xls H.out.tot HM.out H.out.r1 H.out.r2 (by omega) (by omega) (by rw[←HY.out];exact HCR.out.1 hc)
     go_wp2_with fail
     go_quiet ((go_at_call 213;exact Calls.quiet_of (H.out.cmp _ (HSW.out.drewN _) (f y) (f x) v11 v12 v21 v22)))
     go_wp2_with fail
     go_roundw
     case rel=>exact ⟨i,x,rfl,rfl,hai,x1,by omega,HL,HG2,HROW.out,HSW.out.drewN nq⟩
     case measure=>simp[intOf];omega
    ·have HL2:Hid (∀c,lo≤c→c<x+1→R (f c) (f (n-1-c))):=fun c h1 h2=>Xpg H.out.tot HM.out H.out.r1 H.out.r2 (c:=x) (by omega) (by omega) (by rw[←HY.out];exact Xaz H.out.tot HLT.out (fun hr=>hc (HCR.out.2 hr))) c h1 (by omega)
     have hcd:(!decide (cf (f y) (f x)<0))=true:=by simp;omega
     go_wp2_with fail
     go_quiet ((go_at_call 213;exact Calls.quiet_of (H.out.cmp _ (HSW.out.drewN _) (f y) (f x) v11 v12 v21 v22)))
     go_wp2_with fail
     go_roundw
     case rel=>exact ⟨x+1,j,by go_num,rfl,by omega,by omega,hjm,HL2,HG,HROW.out,HSW.out.drewN nq⟩
     case measure=>simp[intOf];omega
   case neg=>
   obtain rfl:i=j:=by omega
   have HP:=Xa (Xi5 H.out.tot HM.out H.out.r1 H.out.r2 hai hjm HL.out HG.out)
   obtain ⟨e,he⟩:∃e,e=n-i:=⟨_,rfl⟩
   rw[←he] at HP
   have ee:(n:Int)-(i:Int)=(e:Int):=by omega
   have k1:=HP.out.ale
   have k2:=HP.out.sm
   have k3:=HP.out.me
   have k4:=HP.out.eb
   have HS:Hid (i+(e-m)=mid):=by have:=HN.out;rw[Hid];omega
   have HROW:=Xa hrow
   have HSW:=Xa hsw
   clear hrow hsw hlt he u1 u2 u3 u4 u5 u6
   have HRA:Hid (∀(W:World),W.rowIs g 3 N (Yq (rot i m e f))→Sw g w0 W→(a<i∧i<mid→Asked R cf g N w0 c1 c2 (rot i m e f) a i mid W)):=fun W hr hs hc=>
    ⟨H.out.tot,H.out.cmp,H.out.cr,hr,hs,Xd9 H.out.val k2 k3 (by omega),hc.1,hc.2,by omega,hNN,HP.out.rise1 H.out.r1,by have:=HP.out.rise2 H.out.r2;rw[HS.out] at this;exact this,by have:=HP.out.cross1 H.out.cx;rw[HS.out] at this;exact this⟩
   have HRM1:Hid (¬(a<i∧i<mid)→Merged R (rot i m e f) (rot i m e f) a mid):=fun hc=>by
    refine Gw ?_
    by_cases c1:a<i
    ·have:i=mid:=by have:=HS.out;omega
     rw[←this];exact HP.out.rise1 H.out.r1
    ·have:i=a:=by omega
     have h2:=HP.out.rise2 H.out.r2
     rw[HS.out,this] at h2
     rw[this];exact h2
   have HRB:Hid (∀(W:World) (f2:Nat→Int),Merged R (rot i m e f) f2 a mid→W.rowIs g 3 N (Yq f2)→Sw g w0 W→(mid<e∧e<b→Asked R cf g N w0 c1 c2 f2 mid e b W)):=fun W f2 hm hr hs hc=>by
    have r3:=HP.out.rise3 H.out.r1
    have r4:=HP.out.rise4 H.out.r2
    have x2:=HP.out.cross2 H.out.cx
    rw[HS.out] at r3 x2
    exact ⟨H.out.tot,H.out.cmp,H.out.cr,hr,hs,hm.vals (Xd9 H.out.val k2 k3 (by omega)) (by omega),hc.1,hc.2,hbN,hNN,
     fun p q h1 h2 h3=>by rw[hm.out p (by omega),hm.out q (by omega)];exact r3 p q h1 h2 h3,
     fun p q h1 h2 h3=>by rw[hm.out p (by omega),hm.out q (by omega)];exact r4 p q h1 h2 h3,
     fun p q h1 h2 h3 h4=>by rw[hm.out p (by omega),hm.out q (by omega)];exact x2 p q h1 h2 h3 h4⟩
   have HRM2:Hid (∀f2:Nat→Int,Merged R (rot i m e f) f2 a mid→¬(mid<e∧e<b)→Merged R f2 f2 mid b):=fun f2 hm hc=>by
    have r3:=HP.out.rise3 H.out.r1
    have r4:=HP.out.rise4 H.out.r2
    rw[HS.out] at r3
    have hmide:mid≤e:=by have:=HS.out;omega
    refine Gw fun p q h1 h2 h3=> ?_
    rw[hm.out p (by omega),hm.out q (by omega)]
    by_cases c1:mid<e
    ·have:e=b:=by omega
     rw[this] at r3⊢
     exact r3 p q h1 h2 h3
    ·have:e=mid:=by omega
     rw[this] at r4⊢
     exact r4 p q h1 h2 h3
   have HWH:Hid (∀f2 f3:Nat→Int,Merged R (rot i m e f) f2 a mid→Merged R f2 f3 mid b→Merged R f f3 a b):=fun f2 f3 h1 h2=>by
    refine HP.out.whole H.out.r1 H.out.r2 (f2:=f2) ?_ ?_
    ·rw[HS.out];exact h1
    ·rw[HS.out];exact h2
   by_cases hA:i<m∧m<e
   case pos =>
    have hA1:(i:Int)<(m:Int):=by omega
    have hA2:(m:Int)<(e:Int):=by omega
    go_wp2_with fail
    refine (Xi3 g N cap f i m e _ wr HROW.out hA.1 hA.2 (by omega) hNN).mono ?_
    rintro e7 w7 ⟨rfl,hr7,hs7⟩
    have HR7:=Xa hr7
    have HS7:=Xa (HSW.out.trans hs7)
    clear hr7 hs7
    by_cases hB:a<i∧i<mid
    case pos=>
     have hB1:(a:Int)<(i:Int):=by omega
     have hB2:(i:Int)<(mid:Int):=by omega
     have HAA:=Xa (HRA.out _ HR7.out HS7.out hB)
     go_wp2_with fail
     refine (IH.out _ a i mid _ (by omega) HAA.out).mono ?_
     rintro e8 w8 ⟨rfl,f8,hr8,hm8,hs8⟩
     have HR8:=Xa hr8
     have HS8:=Xa hs8
     have HM8:=Xa hm8
     clear hr8 hs8 hm8
     by_cases hC:mid<e∧e<b
     case pos=>
      have hC1:(mid:Int)<(e:Int):=by omega
      have hC2:(e:Int)<(b:Int):=by omega
      have HAB:=Xa (HRB.out _ _ HM8.out HR8.out HS8.out hC)
      go_wp2_with fail
      all_goals
       refine (IH.out _ mid e b _ (by omega) HAB.out).mono ?_
       rintro e9 w9 ⟨rfl,f9,hr9,hm9,hs9⟩
       have HW9:=Xa (HWH.out _ _ HM8.out hm9)
       go_wp2_with fail
       exact ⟨rfl, .tuple #[],results_none rfl _ _ _,rfl,f9,hr9,HW9.out,hs9⟩
     case neg=>
      have HW9:=Xa (HWH.out _ _ HM8.out (HRM2.out _ HM8.out hC))
      by_cases hC1:mid<e
      ·have hC1':(mid:Int)<(e:Int):=by omega
       have hC2':¬(e:Int)<(b:Int):=by omega
       go_wp2_with fail
       all_goals exact ⟨rfl, .tuple #[],results_none rfl _ _ _,rfl,_,HR8.out,HW9.out,HS8.out⟩
      ·have hC1':¬(mid:Int)<(e:Int):=by omega
       go_wp2_with fail
       all_goals exact ⟨rfl, .tuple #[],results_none rfl _ _ _,rfl,_,HR8.out,HW9.out,HS8.out⟩
    case neg=>
     have HM8:=Xa (HRM1.out hB)
     by_cases hB1:a<i
     ·have hB1':(a:Int)<(i:Int):=by omega
      have hB2':¬(i:Int)<(mid:Int):=by omega
      by_cases hC:mid<e∧e<b
      case pos=>
       have hC1:(mid:Int)<(e:Int):=by omega
       have hC2:(e:Int)<(b:Int):=by omega
       have HAB:=Xa (HRB.out _ _ HM8.out HR7.out HS7.out hC)
       go_wp2_with fail
       all_goals
        refine (IH.out _ mid e b _ (by omega) HAB.out).mono ?_
        rintro e9 w9 ⟨rfl,f9,hr9,hm9,hs9⟩
        have HW9:=Xa (HWH.out _ _ HM8.out hm9)
        go_wp2_with fail
        exact ⟨rfl, .tuple #[],results_none rfl _ _ _,rfl,f9,hr9,HW9.out,hs9⟩
      case neg=>
       have HW9:=Xa (HWH.out _ _ HM8.out (HRM2.out _ HM8.out hC))
       by_cases hC1:mid<e
       ·have hC1':(mid:Int)<(e:Int):=by omega
        have hC2':¬(e:Int)<(b:Int):=by omega
        go_wp2_with fail
        all_goals exact ⟨rfl, .tuple #[],results_none rfl _ _ _,rfl,_,HR7.out,HW9.out,HS7.out⟩
       ·have hC1':¬(mid:Int)<(e:Int):=by omega
        go_wp2_with fail
        all_goals exact ⟨rfl, .tuple #[],results_none rfl _ _ _,rfl,_,HR7.out,HW9.out,HS7.out⟩
     ·have hB1':¬(a:Int)<(i:Int):=by omega
      by_cases hC:mid<e∧e<b
      case pos=>
       have hC1:(mid:Int)<(e:Int):=by omega
       have hC2:(e:Int)<(b:Int):=by omega
       have HAB:=Xa (HRB.out _ _ HM8.out HR7.out HS7.out hC)
       go_wp2_with fail
       all_goals
        refine (IH.out _ mid e b _ (by omega) HAB.out).mono ?_
        rintro e9 w9 ⟨rfl,f9,hr9,hm9,hs9⟩
        have HW9:=Xa (HWH.out _ _ HM8.out hm9)
        go_wp2_with fail
        exact ⟨rfl, .tuple #[],results_none rfl _ _ _,rfl,f9,hr9,HW9.out,hs9⟩
      case neg=>
       have HW9:=Xa (HWH.out _ _ HM8.out (HRM2.out _ HM8.out hC))
       by_cases hC1:mid<e
       ·have hC1':(mid:Int)<(e:Int):=by omega
        have hC2':¬(e:Int)<(b:Int):=by omega
        go_wp2_with fail
        all_goals exact ⟨rfl, .tuple #[],results_none rfl _ _ _,rfl,_,HR7.out,HW9.out,HS7.out⟩
       ·have hC1':¬(mid:Int)<(e:Int):=by omega
        go_wp2_with fail
        all_goals exact ⟨rfl, .tuple #[],results_none rfl _ _ _,rfl,_,HR7.out,HW9.out,HS7.out⟩
   case neg =>
    have HR7:Hid (wr.rowIs g 3 N (Yq (rot i m e f))):=HROW.out.congr fun p _=>by unfold Yq;rw[Xb9 (by omega) k2 k3]
    by_cases hA1:i<m
    ·have hA1':(i:Int)<(m:Int):=by omega
     have hA2':¬(m:Int)<(e:Int):=by omega
     by_cases hB:a<i∧i<mid
     case pos=>
      have hB1:(a:Int)<(i:Int):=by omega
      have hB2:(i:Int)<(mid:Int):=by omega
      have HAA:=Xa (HRA.out _ HR7.out HSW.out hB)
      go_wp2_with fail
      refine (IH.out _ a i mid _ (by omega) HAA.out).mono ?_
      rintro e8 w8 ⟨rfl,f8,hr8,hm8,hs8⟩
      have HR8:=Xa hr8
      have HS8:=Xa hs8
      have HM8:=Xa hm8
      clear hr8 hs8 hm8
      by_cases hC:mid<e∧e<b
      case pos=>
       have hC1:(mid:Int)<(e:Int):=by omega
       have hC2:(e:Int)<(b:Int):=by omega
       have HAB:=Xa (HRB.out _ _ HM8.out HR8.out HS8.out hC)
       go_wp2_with fail
       all_goals
        refine (IH.out _ mid e b _ (by omega) HAB.out).mono ?_
        rintro e9 w9 ⟨rfl,f9,hr9,hm9,hs9⟩
        have HW9:=Xa (HWH.out _ _ HM8.out hm9)
        go_wp2_with fail
        exact ⟨rfl, .tuple #[],results_none rfl _ _ _,rfl,f9,hr9,HW9.out,hs9⟩
      case neg=>
       have HW9:=Xa (HWH.out _ _ HM8.out (HRM2.out _ HM8.out hC))
       by_cases hC1:mid<e
       ·have hC1':(mid:Int)<(e:Int):=by omega
        have hC2':¬(e:Int)<(b:Int):=by omega
        go_wp2_with fail
        all_goals exact ⟨rfl, .tuple #[],results_none rfl _ _ _,rfl,_,HR8.out,HW9.out,HS8.out⟩
       ·have hC1':¬(mid:Int)<(e:Int):=by omega
        go_wp2_with fail
        all_goals exact ⟨rfl, .tuple #[],results_none rfl _ _ _,rfl,_,HR8.out,HW9.out,HS8.out⟩
     case neg=>
      have HM8:=Xa (HRM1.out hB)
      by_cases hB1:a<i
      ·have hB1':(a:Int)<(i:Int):=by omega
       have hB2':¬(i:Int)<(mid:Int):=by omega
       by_cases hC:mid<e∧e<b
       case pos=>
        have hC1:(mid:Int)<(e:Int):=by omega
        have hC2:(e:Int)<(b:Int):=by omega
        have HAB:=Xa (HRB.out _ _ HM8.out HR7.out HSW.out hC)
        go_wp2_with fail
        all_goals
         refine (IH.out _ mid e b _ (by omega) HAB.out).mono ?_
         rintro e9 w9 ⟨rfl,f9,hr9,hm9,hs9⟩
         have HW9:=Xa (HWH.out _ _ HM8.out hm9)
         go_wp2_with fail
         exact ⟨rfl, .tuple #[],results_none rfl _ _ _,rfl,f9,hr9,HW9.out,hs9⟩
       case neg=>
        have HW9:=Xa (HWH.out _ _ HM8.out (HRM2.out _ HM8.out hC))
        by_cases hC1:mid<e
        ·have hC1':(mid:Int)<(e:Int):=by omega
         have hC2':¬(e:Int)<(b:Int):=by omega
         go_wp2_with fail
         all_goals exact ⟨rfl, .tuple #[],results_none rfl _ _ _,rfl,_,HR7.out,HW9.out,HSW.out⟩
        ·have hC1':¬(mid:Int)<(e:Int):=by omega
         go_wp2_with fail
         all_goals exact ⟨rfl, .tuple #[],results_none rfl _ _ _,rfl,_,HR7.out,HW9.out,HSW.out⟩
      ·have hB1':¬(a:Int)<(i:Int):=by omega
       by_cases hC:mid<e∧e<b
       case pos=>
        have hC1:(mid:Int)<(e:Int):=by omega
        have hC2:(e:Int)<(b:Int):=by omega
        have HAB:=Xa (HRB.out _ _ HM8.out HR7.out HSW.out hC)
        go_wp2_with fail
        all_goals
         refine (IH.out _ mid e b _ (by omega) HAB.out).mono ?_
         rintro e9 w9 ⟨rfl,f9,hr9,hm9,hs9⟩
         have HW9:=Xa (HWH.out _ _ HM8.out hm9)
         go_wp2_with fail
         exact ⟨rfl, .tuple #[],results_none rfl _ _ _,rfl,f9,hr9,HW9.out,hs9⟩
       case neg=>
        have HW9:=Xa (HWH.out _ _ HM8.out (HRM2.out _ HM8.out hC))
        by_cases hC1:mid<e
        ·have hC1':(mid:Int)<(e:Int):=by omega
         have hC2':¬(e:Int)<(b:Int):=by omega
         go_wp2_with fail
         all_goals exact ⟨rfl, .tuple #[],results_none rfl _ _ _,rfl,_,HR7.out,HW9.out,HSW.out⟩
        ·have hC1':¬(mid:Int)<(e:Int):=by omega
         go_wp2_with fail
         all_goals exact ⟨rfl, .tuple #[],results_none rfl _ _ _,rfl,_,HR7.out,HW9.out,HSW.out⟩
    ·have hA1':¬(i:Int)<(m:Int):=by omega
     by_cases hB:a<i∧i<mid
     case pos=>
      have hB1:(a:Int)<(i:Int):=by omega
      have hB2:(i:Int)<(mid:Int):=by omega
      have HAA:=Xa (HRA.out _ HR7.out HSW.out hB)
      go_wp2_with fail
      refine (IH.out _ a i mid _ (by omega) HAA.out).mono ?_
      rintro e8 w8 ⟨rfl,f8,hr8,hm8,hs8⟩
      have HR8:=Xa hr8
      have HS8:=Xa hs8
      have HM8:=Xa hm8
      clear hr8 hs8 hm8
      by_cases hC:mid<e∧e<b
      case pos=>
       have hC1:(mid:Int)<(e:Int):=by omega
       have hC2:(e:Int)<(b:Int):=by omega
       have HAB:=Xa (HRB.out _ _ HM8.out HR8.out HS8.out hC)
       go_wp2_with fail
       all_goals
        refine (IH.out _ mid e b _ (by omega) HAB.out).mono ?_
        rintro e9 w9 ⟨rfl,f9,hr9,hm9,hs9⟩
        have HW9:=Xa (HWH.out _ _ HM8.out hm9)
        go_wp2_with fail
        exact ⟨rfl, .tuple #[],results_none rfl _ _ _,rfl,f9,hr9,HW9.out,hs9⟩
      case neg=>
       have HW9:=Xa (HWH.out _ _ HM8.out (HRM2.out _ HM8.out hC))
       by_cases hC1:mid<e
       ·have hC1':(mid:Int)<(e:Int):=by omega
        have hC2':¬(e:Int)<(b:Int):=by omega
        go_wp2_with fail
        all_goals exact ⟨rfl, .tuple #[],results_none rfl _ _ _,rfl,_,HR8.out,HW9.out,HS8.out⟩
       ·have hC1':¬(mid:Int)<(e:Int):=by omega
        go_wp2_with fail
        all_goals exact ⟨rfl, .tuple #[],results_none rfl _ _ _,rfl,_,HR8.out,HW9.out,HS8.out⟩
     case neg=>
      have HM8:=Xa (HRM1.out hB)
      by_cases hB1:a<i
      ·have hB1':(a:Int)<(i:Int):=by omega
       have hB2':¬(i:Int)<(mid:Int):=by omega
       by_cases hC:mid<e∧e<b
       case pos=>
        have hC1:(mid:Int)<(e:Int):=by omega
        have hC2:(e:Int)<(b:Int):=by omega
        have HAB:=Xa (HRB.out _ _ HM8.out HR7.out HSW.out hC)
        go_wp2_with fail
        all_goals
         refine (IH.out _ mid e b _ (by omega) HAB.out).mono ?_
         rintro e9 w9 ⟨rfl,f9,hr9,hm9,hs9⟩
         have HW9:=Xa (HWH.out _ _ HM8.out hm9)
         go_wp2_with fail
         exact ⟨rfl, .tuple #[],results_none rfl _ _ _,rfl,f9,hr9,HW9.out,hs9⟩
       case neg=>
        have HW9:=Xa (HWH.out _ _ HM8.out (HRM2.out _ HM8.out hC))
        by_cases hC1:mid<e
        ·have hC1':(mid:Int)<(e:Int):=by omega
         have hC2':¬(e:Int)<(b:Int):=by omega
         go_wp2_with fail
         all_goals exact ⟨rfl, .tuple #[],results_none rfl _ _ _,rfl,_,HR7.out,HW9.out,HSW.out⟩
        ·have hC1':¬(mid:Int)<(e:Int):=by omega
         go_wp2_with fail
         all_goals exact ⟨rfl, .tuple #[],results_none rfl _ _ _,rfl,_,HR7.out,HW9.out,HSW.out⟩
      ·have hB1':¬(a:Int)<(i:Int):=by omega
       by_cases hC:mid<e∧e<b
       case pos=>
        have hC1:(mid:Int)<(e:Int):=by omega
        have hC2:(e:Int)<(b:Int):=by omega
        have HAB:=Xa (HRB.out _ _ HM8.out HR7.out HSW.out hC)
        go_wp2_with fail
        all_goals
         refine (IH.out _ mid e b _ (by omega) HAB.out).mono ?_
         rintro e9 w9 ⟨rfl,f9,hr9,hm9,hs9⟩
         have HW9:=Xa (HWH.out _ _ HM8.out hm9)
         go_wp2_with fail
         exact ⟨rfl, .tuple #[],results_none rfl _ _ _,rfl,f9,hr9,HW9.out,hs9⟩
       case neg=>
        have HW9:=Xa (HWH.out _ _ HM8.out (HRM2.out _ HM8.out hC))
        by_cases hC1:mid<e
        ·have hC1':(mid:Int)<(e:Int):=by omega
         have hC2':¬(e:Int)<(b:Int):=by omega
         go_wp2_with fail
         all_goals exact ⟨rfl, .tuple #[],results_none rfl _ _ _,rfl,_,HR7.out,HW9.out,HSW.out⟩
        ·have hC1':¬(mid:Int)<(e:Int):=by omega
         go_wp2_with fail
         all_goals exact ⟨rfl, .tuple #[],results_none rfl _ _ _,rfl,_,HR7.out,HW9.out,HSW.out⟩
 case neg =>
  have hmm':¬(mid:Int)<(m:Int):=by omega
  have HM:Hid (MidS a m b a m n):=by rw[Hid,HN.out];exact HMO.out.2 (by omega)
  have u1:=HM.out.la
  have u2:=HM.out.hm
  have u3:=HM.out.le
  have u4:=HM.out.nm.1
  have u5:=HM.out.nm.2.1
  have u6:=HM.out.nm.2.2
  go_enter Tryz.func217,Tryz.ntmps217
  go_wp2_with fail
  go_loopw [20,21] (fun vi vj wr=>∃i j:Nat,vi= .int .i64 i∧vj= .int .i64 j∧a≤i∧i≤j∧j≤m∧Hid (∀c,a≤c→c<i→R (f c) (f (n-1-c)))∧Hid (∀c,j≤c→c<m→R (f (n-1-c)) (f c))∧wr.rowIs g 3 N (Yq f)∧Sw g w0 wr) (fun vi vj _=>(intOf vj).toNat-(intOf vi).toNat)
  case atStart=>exact ⟨a,m,by go_num,rfl,Nat.le_refl _,u3,Nat.le_refl _,fun q h1 h2=>absurd h1 (by omega),fun q h1 h2=>absurd h1 (by omega),H.out.row,H.out.sw⟩
  case round =>
   obtain ⟨i,j,rfl,rfl,hai,hij,hjm,HL,HG,hrow,hsw⟩:=hrel
   by_cases hlt:i<j
   case pos=>
    obtain ⟨x,hx⟩:∃x:Nat,x=(i+j)/2:=⟨_,rfl⟩
    have x1:i≤x:=by omega
    have x2:x<j:=by omega
    have px:((i:Int)+(j:Int))/2=(x:Int):=by omega
    have hup:=HM.out.up x (by omega) (by omega)
    obtain ⟨y,hy⟩:∃y,y=n-1-x:=⟨_,rfl⟩
    have ey:(n1:Int)-(x:Int)=(y:Int):=by have:=HN1.out;omega
    have hxN:x<N:=by omega
    have hyN:y<N:=by omega
    have d1:=hrow.cell hyN
    have d2:=hrow.cell hxN
    unfold Yq at d1 d2
    obtain ⟨v11,v12⟩:=H.out.val y hyN
    obtain ⟨v21,v22⟩:=H.out.val x hxN
    have HLT:=Xa (H.out.cx x y (by omega) (by omega) (by omega) (by omega))
    have HCR:=Xa (H.out.cr (f x) (f y) HLT.out)
    have HY:=Xa hy
    have HROW:=Xa hrow
    have HSW:=Xa hsw
    clear hx hrow hsw hy hup
    by_cases hc:cf (f y) (f x)<0
    ·have HG2:Hid (∀c,x≤c→c<m→R (f (n-1-c)) (f c)):=Xls H.out.tot HM.out H.out.r1 H.out.r2 (by omega) (by omega) (by rw[←HY.out];exact HCR.out.1 hc)
     go_wp2_with fail
     go_quiet ((go_at_call 213;exact Calls.quiet_of (H.out.cmp _ (HSW.out.drewN _) (f y) (f x) v11 v12 v21 v22)))
     go_wp2_with fail
     go_roundw
     case rel=>exact ⟨i,x,rfl,rfl,hai,x1,by omega,HL,HG2,HROW.out,HSW.out.drewN nq⟩
     case measure=>simp[intOf];omega
    ·have HL2:Hid (∀c,a≤c→c<x+1→R (f c) (f (n-1-c))):=fun c h1 h2=>Xpg H.out.tot HM.out H.out.r1 H.out.r2 (c:=x) (by omega) (by omega) (by rw[←HY.out];exact Xaz H.out.tot HLT.out (fun hr=>hc (HCR.out.2 hr))) c h1 (by omega)
     have hcd:(!decide (cf (f y) (f x)<0))=true:=by simp;omega
     go_wp2_with fail
     go_quiet ((go_at_call 213;exact Calls.quiet_of (H.out.cmp _ (HSW.out.drewN _) (f y) (f x) v11 v12 v21 v22)))
     go_wp2_with fail
     go_roundw
     case rel=>exact ⟨x+1,j,by go_num,rfl,by omega,by omega,hjm,HL2,HG,HROW.out,HSW.out.drewN nq⟩
     case measure=>simp[intOf];omega
   case neg=>
   obtain rfl:i=j:=by omega
   have HP:=Xa (Xi5 H.out.tot HM.out H.out.r1 H.out.r2 hai hjm HL.out HG.out)
   obtain ⟨e,he⟩:∃e,e=n-i:=⟨_,rfl⟩
   rw[←he] at HP
   have ee:(n:Int)-(i:Int)=(e:Int):=by omega
   have k1:=HP.out.ale
   have k2:=HP.out.sm
   have k3:=HP.out.me
   have k4:=HP.out.eb
   have HS:Hid (i+(e-m)=mid):=by have:=HN.out;rw[Hid];omega
   have HROW:=Xa hrow
   have HSW:=Xa hsw
   clear hrow hsw hlt he u1 u2 u3 u4 u5 u6
   have HRA:Hid (∀(W:World),W.rowIs g 3 N (Yq (rot i m e f))→Sw g w0 W→(a<i∧i<mid→Asked R cf g N w0 c1 c2 (rot i m e f) a i mid W)):=fun W hr hs hc=>
    ⟨H.out.tot,H.out.cmp,H.out.cr,hr,hs,Xd9 H.out.val k2 k3 (by omega),hc.1,hc.2,by omega,hNN,HP.out.rise1 H.out.r1,by have:=HP.out.rise2 H.out.r2;rw[HS.out] at this;exact this,by have:=HP.out.cross1 H.out.cx;rw[HS.out] at this;exact this⟩
   have HRM1:Hid (¬(a<i∧i<mid)→Merged R (rot i m e f) (rot i m e f) a mid):=fun hc=>by
    refine Gw ?_
    by_cases c1:a<i
    ·have:i=mid:=by have:=HS.out;omega
     rw[←this];exact HP.out.rise1 H.out.r1
    ·have:i=a:=by omega
     have h2:=HP.out.rise2 H.out.r2
     rw[HS.out,this] at h2
     rw[this];exact h2
   have HRB:Hid (∀(W:World) (f2:Nat→Int),Merged R (rot i m e f) f2 a mid→W.rowIs g 3 N (Yq f2)→Sw g w0 W→(mid<e∧e<b→Asked R cf g N w0 c1 c2 f2 mid e b W)):=fun W f2 hm hr hs hc=>by
    have r3:=HP.out.rise3 H.out.r1
    have r4:=HP.out.rise4 H.out.r2
    have x2:=HP.out.cross2 H.out.cx
    rw[HS.out] at r3 x2
    exact ⟨H.out.tot,H.out.cmp,H.out.cr,hr,hs,hm.vals (Xd9 H.out.val k2 k3 (by omega)) (by omega),hc.1,hc.2,hbN,hNN,
     fun p q h1 h2 h3=>by rw[hm.out p (by omega),hm.out q (by omega)];exact r3 p q h1 h2 h3,
     fun p q h1 h2 h3=>by rw[hm.out p (by omega),hm.out q (by omega)];exact r4 p q h1 h2 h3,
     fun p q h1 h2 h3 h4=>by rw[hm.out p (by omega),hm.out q (by omega)];exact x2 p q h1 h2 h3 h4⟩
   have HRM2:Hid (∀f2:Nat→Int,Merged R (rot i m e f) f2 a mid→¬(mid<e∧e<b)→Merged R f2 f2 mid b):=fun f2 hm hc=>by
    have r3:=HP.out.rise3 H.out.r1
    have r4:=HP.out.rise4 H.out.r2
    rw[HS.out] at r3
    have hmide:mid≤e:=by have:=HS.out;omega
    refine Gw fun p q h1 h2 h3=> ?_
    rw[hm.out p (by omega),hm.out q (by omega)]
    by_cases c1:mid<e
    ·have:e=b:=by omega
     rw[this] at r3⊢
     exact r3 p q h1 h2 h3
    ·have:e=mid:=by omega
     rw[this] at r4⊢
     exact r4 p q h1 h2 h3
   have HWH:Hid (∀f2 f3:Nat→Int,Merged R (rot i m e f) f2 a mid→Merged R f2 f3 mid b→Merged R f f3 a b):=fun f2 f3 h1 h2=>by
    refine HP.out.whole H.out.r1 H.out.r2 (f2:=f2) ?_ ?_
    ·rw[HS.out];exact h1
    ·rw[HS.out];exact h2
   by_cases hA:i<m∧m<e
   case pos =>
    have hA1:(i:Int)<(m:Int):=by omega
    have hA2:(m:Int)<(e:Int):=by omega
    go_wp2_with fail
    refine (Xi3 g N cap f i m e _ wr HROW.out hA.1 hA.2 (by omega) hNN).mono ?_
    rintro e7 w7 ⟨rfl,hr7,hs7⟩
    have HR7:=Xa hr7
    have HS7:=Xa (HSW.out.trans hs7)
    clear hr7 hs7
    by_cases hB:a<i∧i<mid
    case pos=>
     have hB1:(a:Int)<(i:Int):=by omega
     have hB2:(i:Int)<(mid:Int):=by omega
     have HAA:=Xa (HRA.out _ HR7.out HS7.out hB)
     go_wp2_with fail
     refine (IH.out _ a i mid _ (by omega) HAA.out).mono ?_
     rintro e8 w8 ⟨rfl,f8,hr8,hm8,hs8⟩
     have HR8:=Xa hr8
     have HS8:=Xa hs8
     have HM8:=Xa hm8
     clear hr8 hs8 hm8
     by_cases hC:mid<e∧e<b
     case pos=>
      have hC1:(mid:Int)<(e:Int):=by omega
      have hC2:(e:Int)<(b:Int):=by omega
      have HAB:=Xa (HRB.out _ _ HM8.out HR8.out HS8.out hC)
      go_wp2_with fail
      all_goals
       refine (IH.out _ mid e b _ (by omega) HAB.out).mono ?_
       rintro e9 w9 ⟨rfl,f9,hr9,hm9,hs9⟩
       have HW9:=Xa (HWH.out _ _ HM8.out hm9)
       go_wp2_with fail
       exact ⟨rfl, .tuple #[],results_none rfl _ _ _,rfl,f9,hr9,HW9.out,hs9⟩
     case neg=>
      have HW9:=Xa (HWH.out _ _ HM8.out (HRM2.out _ HM8.out hC))
      by_cases hC1:mid<e
      ·have hC1':(mid:Int)<(e:Int):=by omega
       have hC2':¬(e:Int)<(b:Int):=by omega
       go_wp2_with fail
       all_goals exact ⟨rfl, .tuple #[],results_none rfl _ _ _,rfl,_,HR8.out,HW9.out,HS8.out⟩
      ·have hC1':¬(mid:Int)<(e:Int):=by omega
       go_wp2_with fail
       all_goals exact ⟨rfl, .tuple #[],results_none rfl _ _ _,rfl,_,HR8.out,HW9.out,HS8.out⟩
    case neg=>
     have HM8:=Xa (HRM1.out hB)
     by_cases hB1:a<i
     ·have hB1':(a:Int)<(i:Int):=by omega
      have hB2':¬(i:Int)<(mid:Int):=by omega
      by_cases hC:mid<e∧e<b
      case pos=>
       have hC1:(mid:Int)<(e:Int):=by omega
       have hC2:(e:Int)<(b:Int):=by omega
       have HAB:=Xa (HRB.out _ _ HM8.out HR7.out HS7.out hC)
       go_wp2_with fail
       all_goals
        refine (IH.out _ mid e b _ (by omega) HAB.out).mono ?_
        rintro e9 w9 ⟨rfl,f9,hr9,hm9,hs9⟩
        have HW9:=Xa (HWH.out _ _ HM8.out hm9)
        go_wp2_with fail
        exact ⟨rfl, .tuple #[],results_none rfl _ _ _,rfl,f9,hr9,HW9.out,hs9⟩
      case neg=>
       have HW9:=Xa (HWH.out _ _ HM8.out (HRM2.out _ HM8.out hC))
       by_cases hC1:mid<e
       ·have hC1':(mid:Int)<(e:Int):=by omega
        have hC2':¬(e:Int)<(b:Int):=by omega
        go_wp2_with fail
        all_goals exact ⟨rfl, .tuple #[],results_none rfl _ _ _,rfl,_,HR7.out,HW9.out,HS7.out⟩
       ·have hC1':¬(mid:Int)<(e:Int):=by omega
        go_wp2_with fail
        all_goals exact ⟨rfl, .tuple #[],results_none rfl _ _ _,rfl,_,HR7.out,HW9.out,HS7.out⟩
     ·have hB1':¬(a:Int)<(i:Int):=by omega
      by_cases hC:mid<e∧e<b
      case pos=>
       have hC1:(mid:Int)<(e:Int):=by omega
       have hC2:(e:Int)<(b:Int):=by omega
       have HAB:=Xa (HRB.out _ _ HM8.out HR7.out HS7.out hC)
       go_wp2_with fail
       all_goals
        refine (IH.out _ mid e b _ (by omega) HAB.out).mono ?_
        rintro e9 w9 ⟨rfl,f9,hr9,hm9,hs9⟩
        have HW9:=Xa (HWH.out _ _ HM8.out hm9)
        go_wp2_with fail
        exact ⟨rfl, .tuple #[],results_none rfl _ _ _,rfl,f9,hr9,HW9.out,hs9⟩
      case neg=>
       have HW9:=Xa (HWH.out _ _ HM8.out (HRM2.out _ HM8.out hC))
       by_cases hC1:mid<e
       ·have hC1':(mid:Int)<(e:Int):=by omega
        have hC2':¬(e:Int)<(b:Int):=by omega
        go_wp2_with fail
        all_goals exact ⟨rfl, .tuple #[],results_none rfl _ _ _,rfl,_,HR7.out,HW9.out,HS7.out⟩
       ·have hC1':¬(mid:Int)<(e:Int):=by omega
        go_wp2_with fail
        all_goals exact ⟨rfl, .tuple #[],results_none rfl _ _ _,rfl,_,HR7.out,HW9.out,HS7.out⟩
   case neg =>
    have HR7:Hid (wr.rowIs g 3 N (Yq (rot i m e f))):=HROW.out.congr fun p _=>by unfold Yq;rw[Xb9 (by omega) k2 k3]
    by_cases hA1:i<m
    ·have hA1':(i:Int)<(m:Int):=by omega
     have hA2':¬(m:Int)<(e:Int):=by omega
     by_cases hB:a<i∧i<mid
     case pos=>
      have hB1:(a:Int)<(i:Int):=by omega
      have hB2:(i:Int)<(mid:Int):=by omega
      have HAA:=Xa (HRA.out _ HR7.out HSW.out hB)
      go_wp2_with fail
      refine (IH.out _ a i mid _ (by omega) HAA.out).mono ?_
      rintro e8 w8 ⟨rfl,f8,hr8,hm8,hs8⟩
      have HR8:=Xa hr8
      have HS8:=Xa hs8
      have HM8:=Xa hm8
      clear hr8 hs8 hm8
      by_cases hC:mid<e∧e<b
      case pos=>
       have hC1:(mid:Int)<(e:Int):=by omega
       have hC2:(e:Int)<(b:Int):=by omega
       have HAB:=Xa (HRB.out _ _ HM8.out HR8.out HS8.out hC)
       go_wp2_with fail
       all_goals
        refine (IH.out _ mid e b _ (by omega) HAB.out).mono ?_
        rintro e9 w9 ⟨rfl,f9,hr9,hm9,hs9⟩
        have HW9:=Xa (HWH.out _ _ HM8.out hm9)
        go_wp2_with fail
        exact ⟨rfl, .tuple #[],results_none rfl _ _ _,rfl,f9,hr9,HW9.out,hs9⟩
      case neg=>
       have HW9:=Xa (HWH.out _ _ HM8.out (HRM2.out _ HM8.out hC))
       by_cases hC1:mid<e
       ·have hC1':(mid:Int)<(e:Int):=by omega
        have hC2':¬(e:Int)<(b:Int):=by omega
        go_wp2_with fail
        all_goals exact ⟨rfl, .tuple #[],results_none rfl _ _ _,rfl,_,HR8.out,HW9.out,HS8.out⟩
       ·have hC1':¬(mid:Int)<(e:Int):=by omega
        go_wp2_with fail
        all_goals exact ⟨rfl, .tuple #[],results_none rfl _ _ _,rfl,_,HR8.out,HW9.out,HS8.out⟩
     case neg=>
      have HM8:=Xa (HRM1.out hB)
      by_cases hB1:a<i
      ·have hB1':(a:Int)<(i:Int):=by omega
       have hB2':¬(i:Int)<(mid:Int):=by omega
       by_cases hC:mid<e∧e<b
       case pos=>
        have hC1:(mid:Int)<(e:Int):=by omega
        have hC2:(e:Int)<(b:Int):=by omega
        have HAB:=Xa (HRB.out _ _ HM8.out HR7.out HSW.out hC)
        go_wp2_with fail
        all_goals
         refine (IH.out _ mid e b _ (by omega) HAB.out).mono ?_
         rintro e9 w9 ⟨rfl,f9,hr9,hm9,hs9⟩
         have HW9:=Xa (HWH.out _ _ HM8.out hm9)
         go_wp2_with fail
         exact ⟨rfl, .tuple #[],results_none rfl _ _ _,rfl,f9,hr9,HW9.out,hs9⟩
       case neg=>
        have HW9:=Xa (HWH.out _ _ HM8.out (HRM2.out _ HM8.out hC))
        by_cases hC1:mid<e
        ·have hC1':(mid:Int)<(e:Int):=by omega
         have hC2':¬(e:Int)<(b:Int):=by omega
         go_wp2_with fail
         all_goals exact ⟨rfl, .tuple #[],results_none rfl _ _ _,rfl,_,HR7.out,HW9.out,HSW.out⟩
        ·have hC1':¬(mid:Int)<(e:Int):=by omega
         go_wp2_with fail
         all_goals exact ⟨rfl, .tuple #[],results_none rfl _ _ _,rfl,_,HR7.out,HW9.out,HSW.out⟩
      ·have hB1':¬(a:Int)<(i:Int):=by omega
       by_cases hC:mid<e∧e<b
       case pos=>
        have hC1:(mid:Int)<(e:Int):=by omega
        have hC2:(e:Int)<(b:Int):=by omega
        have HAB:=Xa (HRB.out _ _ HM8.out HR7.out HSW.out hC)
        go_wp2_with fail
        all_goals
         refine (IH.out _ mid e b _ (by omega) HAB.out).mono ?_
         rintro e9 w9 ⟨rfl,f9,hr9,hm9,hs9⟩
         have HW9:=Xa (HWH.out _ _ HM8.out hm9)
         go_wp2_with fail
         exact ⟨rfl, .tuple #[],results_none rfl _ _ _,rfl,f9,hr9,HW9.out,hs9⟩
       case neg=>
        have HW9:=Xa (HWH.out _ _ HM8.out (HRM2.out _ HM8.out hC))
        by_cases hC1:mid<e
        ·have hC1':(mid:Int)<(e:Int):=by omega
         have hC2':¬(e:Int)<(b:Int):=by omega
         go_wp2_with fail
         all_goals exact ⟨rfl, .tuple #[],results_none rfl _ _ _,rfl,_,HR7.out,HW9.out,HSW.out⟩
        ·have hC1':¬(mid:Int)<(e:Int):=by omega
         go_wp2_with fail
         all_goals exact ⟨rfl, .tuple #[],results_none rfl _ _ _,rfl,_,HR7.out,HW9.out,HSW.out⟩
    ·have hA1':¬(i:Int)<(m:Int):=by omega
     by_cases hB:a<i∧i<mid
     case pos=>
      have hB1:(a:Int)<(i:Int):=by omega
      have hB2:(i:Int)<(mid:Int):=by omega
      have HAA:=Xa (HRA.out _ HR7.out HSW.out hB)
      go_wp2_with fail
      refine (IH.out _ a i mid _ (by omega) HAA.out).mono ?_
      rintro e8 w8 ⟨rfl,f8,hr8,hm8,hs8⟩
      have HR8:=Xa hr8
      have HS8:=Xa hs8
      have HM8:=Xa hm8
      clear hr8 hs8 hm8
      by_cases hC:mid<e∧e<b
      case pos=>
       have hC1:(mid:Int)<(e:Int):=by omega
       have hC2:(e:Int)<(b:Int):=by omega
       have HAB:=Xa (HRB.out _ _ HM8.out HR8.out HS8.out hC)
       go_wp2_with fail
       all_goals
        refine (IH.out _ mid e b _ (by omega) HAB.out).mono ?_
        rintro e9 w9 ⟨rfl,f9,hr9,hm9,hs9⟩
        have HW9:=Xa (HWH.out _ _ HM8.out hm9)
        go_wp2_with fail
        exact ⟨rfl, .tuple #[],results_none rfl _ _ _,rfl,f9,hr9,HW9.out,hs9⟩
      case neg=>
       have HW9:=Xa (HWH.out _ _ HM8.out (HRM2.out _ HM8.out hC))
       by_cases hC1:mid<e
       ·have hC1':(mid:Int)<(e:Int):=by omega
        have hC2':¬(e:Int)<(b:Int):=by omega
        go_wp2_with fail
        all_goals exact ⟨rfl, .tuple #[],results_none rfl _ _ _,rfl,_,HR8.out,HW9.out,HS8.out⟩
       ·have hC1':¬(mid:Int)<(e:Int):=by omega
        go_wp2_with fail
        all_goals exact ⟨rfl, .tuple #[],results_none rfl _ _ _,rfl,_,HR8.out,HW9.out,HS8.out⟩
     case neg=>
      have HM8:=Xa (HRM1.out hB)
      by_cases hB1:a<i
      ·have hB1':(a:Int)<(i:Int):=by omega
       have hB2':¬(i:Int)<(mid:Int):=by omega
       by_cases hC:mid<e∧e<b
       case pos=>
        have hC1:(mid:Int)<(e:Int):=by omega
        have hC2:(e:Int)<(b:Int):=by omega
        have HAB:=Xa (HRB.out _ _ HM8.out HR7.out HSW.out hC)
        go_wp2_with fail
        all_goals
         refine (IH.out _ mid e b _ (by omega) HAB.out).mono ?_
         rintro e9 w9 ⟨rfl,f9,hr9,hm9,hs9⟩
         have HW9:=Xa (HWH.out _ _ HM8.out hm9)
         go_wp2_with fail
         exact ⟨rfl, .tuple #[],results_none rfl _ _ _,rfl,f9,hr9,HW9.out,hs9⟩
       case neg=>
        have HW9:=Xa (HWH.out _ _ HM8.out (HRM2.out _ HM8.out hC))
        by_cases hC1:mid<e
        ·have hC1':(mid:Int)<(e:Int):=by omega
         have hC2':¬(e:Int)<(b:Int):=by omega
         go_wp2_with fail
         all_goals exact ⟨rfl, .tuple #[],results_none rfl _ _ _,rfl,_,HR7.out,HW9.out,HSW.out⟩
        ·have hC1':¬(mid:Int)<(e:Int):=by omega
         go_wp2_with fail
         all_goals exact ⟨rfl, .tuple #[],results_none rfl _ _ _,rfl,_,HR7.out,HW9.out,HSW.out⟩
      ·have hB1':¬(a:Int)<(i:Int):=by omega
       by_cases hC:mid<e∧e<b
       case pos=>
        have hC1:(mid:Int)<(e:Int):=by omega
        have hC2:(e:Int)<(b:Int):=by omega
        have HAB:=Xa (HRB.out _ _ HM8.out HR7.out HSW.out hC)
        go_wp2_with fail
        all_goals
         refine (IH.out _ mid e b _ (by omega) HAB.out).mono ?_
         rintro e9 w9 ⟨rfl,f9,hr9,hm9,hs9⟩
         have HW9:=Xa (HWH.out _ _ HM8.out hm9)
         go_wp2_with fail
         exact ⟨rfl, .tuple #[],results_none rfl _ _ _,rfl,f9,hr9,HW9.out,hs9⟩
       case neg=>
        have HW9:=Xa (HWH.out _ _ HM8.out (HRM2.out _ HM8.out hC))
        by_cases hC1:mid<e
        ·have hC1':(mid:Int)<(e:Int):=by omega
         have hC2':¬(e:Int)<(b:Int):=by omega
         go_wp2_with fail
         all_goals exact ⟨rfl, .tuple #[],results_none rfl _ _ _,rfl,_,HR7.out,HW9.out,HSW.out⟩
        ·have hC1':¬(mid:Int)<(e:Int):=by omega
         go_wp2_with fail
         all_goals exact ⟨rfl, .tuple #[],results_none rfl _ _ _,rfl,_,HR7.out,HW9.out,HSW.out⟩

structure AskedI (R:Int→Int→Prop) (cf:Int→Int→Int) (g N:Nat) (w0:World) (c1 c2:Value) (f:Nat→Int) (a b:Nat) (w:World):Prop where
 tot:Tot R
 cmp:Xix g N w0 c1 c2 cf
 cr:∀x y:Int,x<y→(cf y x<0↔R y x)
 row:w.rowIs g 3 N (Yq f)
 sw:Sw g w0 w
 val:We f N
 ab:a≤b
 bN:b≤N
 NN:N≤1099511627776
 up:∀p q,a≤p→p<q→q<b→f p<f q
theorem Xoo {R:Int→Int→Prop} (hR:Tot R) {f fk:Nat→Int} {a i j:Nat} (h1:a≤j) (h2:j≤i) (hm:Merged R f fk a i) (hfi:∀p,i≤p→fk p=f p)
  (hbig:∀p,j≤p→p<i→R (f i) (fk p)) (hlow:a<j→R (fk (j-1)) (f i)):Merged R f (rot j i (i+1) fk) a (i+1):=by
 have hl:∀p,a≤p→p<j→R (fk p) (f i):=fun p hp hpj=>by
  have:=hlow (by omega)
  by_cases e:p=j-1
  ·rw[e];exact this
  ·exact hR.tr _ _ _ (hm.ris p (j-1) hp (by omega) (by omega)) this
 have m2:Merged R fk (rot j i (i+1) fk) a (i+1):=Xoh h1 h2 (by omega) hm.ris (fun p q h1 h2 h3=>by omega) (fun p q h3 h4 h5 h6=>by
   obtain rfl:q=i:=by omega
   rw[hfi q (Nat.le_refl _)];exact hl p h3 h4) (fun p q h3 h4 h5 h6=>by
   obtain rfl:q=i:=by omega
   rw[hfi q (Nat.le_refl _)];exact hbig p h3 h4)
 refine ⟨fun p hp=> ?_,fun p h3 h4=> ?_,m2.ris⟩
 ·rw[m2.out p hp]
  rcases hp with c|c
  ·exact hm.out p (Or.inl c)
  ·exact hfi p (by omega)
 ·obtain ⟨q,q1,q2,q3⟩:=m2.inn p h3 h4
  by_cases c:q<i
  ·obtain ⟨r,r1,r2,r3⟩:=hm.inn q q1 c
   exact ⟨r,r1,by omega,by rw[q3,r3]⟩
  ·exact ⟨q,q1,q2,by rw[q3,hfi q (by omega)]⟩
set_option maxRecDepth 100000 in
theorem Xev (R:Int→Int→Prop) (cf:Int→Int→Int) (g N cap:Nat) (w0:World) (c1 c2:Value) (f:Nat→Int) (a b:Nat) (w:World) (h:AskedI R cf g N w0 c1 c2 f a b w):
  Calls Tryz.prog 216 #[.slice (some ⟨g,0,none⟩) N cap, .int .i64 a, .int .i64 b, .func (.func 213) #[] #[c1,c2]] w fun e w'=>e= .returned (.tuple #[])∧∃f',w'.rowIs g 3 N (Yq f')∧Merged R f f' a b∧Sw g w0 w':=by
 have H:=Xa h
 have hab:=h.ab
 have hbN:=h.bN
 have hNN:=h.NN
 clear h
 go_enter Tryz.func216,Tryz.ntmps216
 go_wp2_with fail
 go_loopw [8] (fun vi wr=>∃(i:Nat) (fk:Nat→Int),vi= .int .i64 i∧a<i∧i≤b+1∧wr.rowIs g 3 N (Yq fk)∧Hid (Merged R f fk a (min i b))∧Hid (∀p,min i b≤p→fk p=f p)∧Sw g w0 wr) (fun vi _=>b+1-(intOf vi).toNat)
 case atStart=>
  refine ⟨a+1,f,by go_num,by omega,by omega,H.out.row,Gw fun p q h1 h2 h3=> ?_,fun p _=>rfl,H.out.sw⟩
  exfalso;omega
 case round=>
  obtain ⟨i,fk,rfl,hai,hib,hrow,HM,HF,hsw⟩:=hrel
  by_cases hlt:i<b
  case neg=>
   have hmin:min i b=b:=by omega
   rw[hmin] at HM
   go_wp2_with fail
   exact ⟨rfl, .tuple #[],results_none rfl _ _ _,rfl,fk,hrow,HM.out,hsw⟩
  case pos=>
  have hmin:min i b=i:=by omega
  rw[hmin] at HM HF
  clear hmin
  obtain ⟨W0,rfl⟩:∃W0,W0=wr:=⟨_,rfl⟩
  have HROW:=Xa hrow
  have HSW:=Xa hsw
  have HV:=Xa (HM.out.vals H.out.val (by omega))
  clear hrow hsw
  go_wp2_with fail
  go_loopw [9] (fun vj wr=>∃j:Nat,vj= .int .i64 j∧a≤j∧j≤i∧wr.rowIs g 3 N (Yq (rot j i (i+1) fk))∧Hid (∀p,j≤p→p<i→R (f i) (fk p))∧Sw g w0 wr) (fun vj _=>(intOf vj).toNat)
  case atStart=>exact ⟨i,rfl,by omega,Nat.le_refl _,HROW.out.congr fun p _=>by unfold Yq;rw[Xb9 (Or.inl rfl) (Nat.le_refl _) (by omega)],fun p h1 h2=>absurd h1 (by omega),HSW.out⟩
  case round=>
   obtain ⟨j,rfl,haj,hji,hrow,HB,hsw⟩:=hrel
   by_cases hja:a<j
   case neg=>
    obtain rfl:j=a:=by omega
    have hd:decide ((j:Int)<(j:Int))=false:=by simp
    have HM2:=Xa (Xoo H.out.tot (Nat.le_refl _) hji HM.out HF.out HB.out (fun h=>absurd h (by omega)))
    have HF2:Hid (∀p,i+1≤p→rot j i (i+1) fk p=f p):=fun p hp=>by rw[Qj (by omega) hji (by omega)];exact HF.out p (by omega)
    have hjj:¬(j:Int)<(j:Int):=by omega
    go_wp2_with fail
    go_quiet (fail)
    go_wp2_with fail
    go_roundw
    case rel=>
     refine ⟨i+1,rot j i (i+1) fk,by go_num,by omega,by omega,hrow, ?_, ?_,hsw.drewN nq⟩
     ·rw[show min (i+1) b=i+1 by omega];exact HM2
     ·rw[show min (i+1) b=i+1 by omega];exact HF2
    case measure=>simp[intOf];omega
   case pos=>
   obtain ⟨z,hz⟩:∃z,j=z+1:=⟨j-1,by omega⟩
   have e1:(j:Int)-1=(z:Int):=by omega
   have hjN:j<N:=by omega
   have hzN:z<N:=by omega
   have q1:=hrow.cell (i:=j) hjN
   have q2:=hrow.cell (i:=z) hzN
   have f1:=hrow.frozen j
   have f2:=hrow.frozen z
   unfold Yq at q1 q2
   have HEJ:Hid (rot j i (i+1) fk j=f i):=by rw[Hid,Wc (Nat.le_refl _) (by omega),show i+(j-j)=i by omega];exact HF.out i (Nat.le_refl _)
   have HEZ:Hid (rot j i (i+1) fk z=fk z):=by rw[Hid,Qj (by omega) hji (by omega)]
   rw[HEJ.out] at q1
   rw[HEZ.out] at q2
   obtain ⟨v11,v12⟩:=H.out.val i (by omega)
   obtain ⟨v21,v22⟩:=HV.out z hzN
   have HLT:Hid (fk z<f i):=by
    obtain ⟨r,r1,r2,r3⟩:=HM.out.inn z (by omega) (by omega)
    rw[Hid,r3]
    exact H.out.up r i r1 (by omega) hlt
   have HCR:=Xa (H.out.cr (fk z) (f i) HLT.out)
   have hjaI:(a:Int)<(j:Int):=by omega
   have hdec:decide ((a:Int)<(j:Int))=true:=by simp;omega
   by_cases hc:cf (f i) (fk z)<0
   case pos=>
    have hne1:j≠z:=by omega
    have hne2:z≠j:=by omega
    have HNEW:Hid (∀W:World,W.rowIs g 3 N (Yq (rot j i (i+1) fk))→((W.setCell ⟨g,j,none⟩ (.int .i64 (fk z))).setCell ⟨g,z,none⟩ (.int .i64 (f i))).drew.rowIs g 3 N (Yq (rot z i (i+1) fk))):=fun W hW=>by
     refine (Xcu hW j z (fk z) (f i)).congr fun p _=> ?_
     unfold Yq
     have d:=Xpf (show z+1≤i by omega) fk p
     rw[←hz,HEJ.out,HEZ.out] at d
     rw[←d]
    have HB2:Hid (∀p,z≤p→p<i→R (f i) (fk p)):=fun p h1 h2=>by
     by_cases e:p=z
     ·rw[e];exact HCR.out.1 hc
     ·exact HB.out p (by omega) h2
    have HZ:=Xa hz
    have HR1:=Xa hrow
    have HS1:=Xa hsw
    clear hz hrow hsw
    go_wp2_with fail
    go_quiet ((go_at_call 213;exact Calls.quiet_of (H.out.cmp _ (HS1.out.drewN _) (f i) (fk z) v11 v12 v21 v22)))
    have q1':(wr.drewN nq).cell? ⟨g,j,none⟩=some (.int .i64 (f i)):=q1
    have q2':(wr.drewN nq).cell? ⟨g,z,none⟩=some (.int .i64 (fk z)):=q2
    have f1':(wr.drewN nq).frozen? ⟨g,j,none⟩=false:=f1
    have f2':(wr.drewN nq).frozen? ⟨g,z,none⟩=false:=f2
    have HR2:Hid ((wr.drewN nq).rowIs g 3 N (Yq (rot j i (i+1) fk))):=HR1.out
    have HS2:=Xa (HS1.out.drewN nq)
    generalize wr.drewN nq=W1 at q1' q2' f1' f2' HR2 HS2⊢
    clear q1 q2 f1 f2
    have HN1:=Xa (HNEW.out W1 HR2.out)
    have HO:=Xa ((HS2.out.set j (.int .i64 (fk z))).set z (.int .i64 (f i))).drew
    go_wp2_with fail
    go_region
    all_goals
     go_wp2_with fail
     go_roundw
     case rel=>exact ⟨z,by go_num,by have:=HZ.out;omega,by have:=HZ.out;omega,HN1.out,HB2,HO.out⟩
     case measure=>have:=HZ.out;simp[intOf];omega
   case neg=>
    have HM2:Hid (Merged R f (rot j i (i+1) fk) a (i+1)):=Xoo H.out.tot haj hji HM.out HF.out HB.out (fun _=>by
     rw[show j-1=z by omega]
     exact Xaz H.out.tot HLT.out (fun hr=>hc (HCR.out.2 hr)))
    have HF2:Hid (∀p,i+1≤p→rot j i (i+1) fk p=f p):=fun p hp=>by rw[Qj (by omega) hji (by omega)];exact HF.out p (by omega)
    have hcd:decide (cf (f i) (fk z)<0)=false:=by simp;omega
    have HR1:=Xa hrow
    have HS1:=Xa hsw
    have HZ:=Xa hz
    clear hz hrow hsw
    go_wp2_with fail
    go_quiet ((go_at_call 213;exact Calls.quiet_of (H.out.cmp _ (HS1.out.drewN _) (f i) (fk z) v11 v12 v21 v22)))
    go_wp2_with fail
    go_roundw
    case rel=>
     refine ⟨i+1,rot j i (i+1) fk,by go_num,by omega,by omega,HR1.out, ?_, ?_,HS1.out.drewN nq⟩
     ·rw[show min (i+1) b=i+1 by omega];exact HM2
     ·rw[show min (i+1) b=i+1 by omega];exact HF2
    case measure=>simp[intOf];omega

theorem Xf2 (R:Int→Int→Prop) (cf:Int→Int→Int) (g N cap:Nat) (w0:World) (c1 c2:Value):∀(k:Nat) (f:Nat→Int) (a m b:Nat) (w:World),b-a≤k→Asked R cf g N w0 c1 c2 f a m b w→Xgq R cf g N cap w0 c1 c2 f a m b w:=by
 intro k
 induction k with
 |zero=>intro f a m b w hk h;have:=h.am;have:=h.mb;omega
 | succ k ih =>
  intro f a m b w hk h
  have h1:=h.am
  have h2:=h.mb
  by_cases e1:m=a+1
  ·exact Xur R cf g N cap w0 c1 c2 f a m b w h e1
  ·by_cases e2:b=m+1
   ·exact Xuh R cf g N cap w0 c1 c2 f a m b w h (by omega) e2
   ·exact Xve R cf g N cap w0 c1 c2 f a m b w h (by omega) (by omega) (fun f' a' m' b' w' hlt ha=>ih f' a' m' b' w' (by omega) ha)
structure AskedS (R:Int→Int→Prop) (cf:Int→Int→Int) (g N:Nat) (w0:World) (c1 c2:Value) (f:Nat→Int) (w:World):Prop where
 tot:Tot R
 cmp:Xix g N w0 c1 c2 cf
 cr:∀x y:Int,x<y→(cf y x<0↔R y x)
 row:w.rowIs g 3 N (Yq f)
 sw:Sw g w0 w
 val:We f N
 NN:N≤1048576
 up:∀p q,p<q→q<N→f p<f q
theorem Xly {R:Int→Int→Prop} {f fk fk':Nat→Int} {a b:Nat} (he:∀p,a≤p→fk p=f p) (hm:Merged R fk fk' a b):Blk R f fk' a b:=by
 refine ⟨fun p h1 h2=> ?_,hm.ris⟩
 obtain ⟨q,q1,q2,q3⟩:=hm.inn p h1 h2
 exact ⟨q,q1,q2,by rw[q3,he q q1]⟩
theorem Xks {R:Int→Int→Prop} {f fk:Nat→Int} {N:Nat} (hv:We f N) (h:∀p,p<N→∃q,q<N∧fk p=f q):We fk N:=fun p hp=>by
 obtain ⟨q,q1,q2⟩:=h p hp
 rw[q2];exact hv q q1
set_option maxRecDepth 100000 in
theorem Xvq (R:Int→Int→Prop) (cf:Int→Int→Int) (g N cap:Nat) (w0:World) (c1 c2:Value) (f:Nat→Int) (w:World) (h:AskedS R cf g N w0 c1 c2 f w):
  Calls Tryz.prog 215 #[.slice (some ⟨g,0,none⟩) N cap, .int .i64 N, .func (.func 213) #[] #[c1,c2]] w fun e w'=>e= .returned (.tuple #[])∧∃f',w'.rowIs g 3 N (Yq f')∧Blk R f f' 0 N∧Sw g w0 w':=by
 have H:=Xa h
 have hNN:=h.NN
 clear h
 go_enter Tryz.func215,Tryz.ntmps215
 go_wp2_with fail
 go_loopw [7,8] (fun va vb wr=>∃(a b:Nat) (fk:Nat→Int),va= .int .i64 a∧vb= .int .i64 b∧Hid (b=a+20)∧a≤b∧b≤a+20∧Hid (20∣a)∧a≤N∧wr.rowIs g 3 N (Yq fk)∧Hid (Upto R f fk 20 a)∧Hid (∀p,a≤p→fk p=f p)∧Hid (∀p,p<N→∃q,q<N∧fk p=f q)∧Sw g w0 wr) (fun va _ _=>N-(intOf va).toNat)
 case atStart=>exact ⟨0,20,f,rfl,rfl,rfl,by omega,by omega,Nat.dvd_zero _,Nat.zero_le _,H.out.row,fun x _ h=>absurd h (by omega),fun p _=>rfl,fun p hp=>⟨p,hp,rfl⟩,H.out.sw⟩
 case round =>
  obtain ⟨a,b,fk,rfl,rfl,HB20,hab1,hab2,HD,haN,hrow,HU,HE,HI,hsw⟩:=hrel
  have HROW:=Xa hrow
  have HSW:=Xa hsw
  clear hrow hsw
  by_cases hle:b≤N
  case pos=>
   have HA:Hid (AskedI R cf g N w0 c1 c2 fk a b wr):=⟨H.out.tot,H.out.cmp,H.out.cr,HROW.out,HSW.out,Xks (R:=R) H.out.val HI.out,by omega,hle,by omega,fun p q h1 h2 h3=>by rw[HE.out p h1,HE.out q (by omega)];exact H.out.up p q h2 (by omega)⟩
   go_wp2_with fail
   refine (Xev R cf g N cap w0 c1 c2 fk a b wr HA.out).mono ?_
   rintro e w1 ⟨rfl,f1,hr1,hm1,hs1⟩
   have HU2:Hid (Upto R f f1 20 b):=by
    rw[Hid,HB20.out]
    exact HU.out.snoc HD.out (by have:=Xly HE.out hm1;rw[HB20.out] at this;exact this) (fun p hp=>hm1.out p (Or.inl hp))
   have HE2:Hid (∀p,b≤p→f1 p=f p):=fun p hp=>by rw[hm1.out p (Or.inr hp)];exact HE.out p (by omega)
   have HI2:Hid (∀p,p<N→∃q,q<N∧f1 p=f q):=fun p hp=>by
    by_cases c:a≤p∧p<b
    ·obtain ⟨q,q1,q2,q3⟩:=hm1.inn p c.1 c.2
     exact ⟨q,by omega,by rw[q3,HE.out q q1]⟩
    ·rw[hm1.out p (by omega)];exact HI.out p hp
   have HD2:Hid (20∣b):=by rw[Hid,HB20.out];exact Nat.dvd_add HD.out (Nat.dvd_refl _)
   have HR1:=Xa hr1
   have HS1:=Xa hs1
   clear hr1 hm1 hs1
   go_wp2_with fail
   go_roundw
   case rel=>exact ⟨b,b+20,f1,rfl,by go_num,rfl,by omega,by omega,HD2,hle,HR1.out,HU2,HE2,HI2,HS1.out⟩
   case measure=>have:=HB20.out;simp[intOf];omega
  case neg=>
  have HA:Hid (AskedI R cf g N w0 c1 c2 fk a N wr):=⟨H.out.tot,H.out.cmp,H.out.cr,HROW.out,HSW.out,Xks (R:=R) H.out.val HI.out,haN,Nat.le_refl _,by omega,fun p q h1 h2 h3=>by rw[HE.out p h1,HE.out q (by omega)];exact H.out.up p q h2 h3⟩
  have hle':¬(b:Int)≤(N:Int):=by omega
  go_wp2_with fail
  refine (Xev R cf g N cap w0 c1 c2 fk a N wr HA.out).mono ?_
  rintro e w1 ⟨rfl,f1,hr1,hm1,hs1⟩
  have HFR:Hid (Xel R f f1 20 0 N):=Xh9 (fun x hx hlt=>(HU.out x hx hlt).kept (fun p h1 h2=>hm1.out p (Or.inl (by have:=Xem hx HD.out hlt;omega)))) HD.out haN (by have:=HB20.out;omega) (fun _=>Xly HE.out hm1)
  have HI1:Hid (∀p,p<N→∃q,q<N∧f1 p=f q):=fun p hp=>by
   by_cases c:a≤p∧p<N
   ·obtain ⟨q,q1,q2,q3⟩:=hm1.inn p c.1 c.2
    exact ⟨q,by omega,by rw[q3,HE.out q q1]⟩
   ·rw[hm1.out p (by omega)];exact HI.out p hp
  have HR1:=Xa hr1
  have HS1:=Xa hs1
  clear hr1 hm1 hs1 HROW HSW HU HE HI HD HA hle hle'
  obtain ⟨W0,rfl⟩:∃W0,W0=wr:=⟨_,rfl⟩
  go_wp2_with fail
  go_loopw [6,7,8,9] (fun vs _ _ _ wr=>∃(s:Nat) (fk:Nat→Int),vs= .int .i64 s∧20≤s∧s≤2 *N+20∧wr.rowIs g 3 N (Yq fk)∧Hid (Xel R f fk s 0 N)∧Hid (∀p,p<N→∃q,q<N∧fk p=f q)∧Sw g w0 wr) (fun vs _ _ _ _=>N-(intOf vs).toNat)
  case atStart=>exact ⟨20,f1,rfl,Nat.le_refl _,by omega,HR1.out,HFR,HI1,HS1.out⟩
  case round =>
   obtain ⟨s,fk,rfl,hs20,hsN,hrow,HF,HI,hsw⟩:=hrel
   have HROW:=Xa hrow
   have HSW:=Xa hsw
   clear hrow hsw
   by_cases hlt:s<N
   case neg=>
    have HB:Hid (Blk R f fk 0 N):=by
     by_cases c:0<N
     ·have:=HF.out 0 (Nat.dvd_zero _) (Nat.le_refl _) c
      rw[show min (0+s) N=N by omega] at this
      exact this
     ·exact ⟨fun p h1 h2=>by omega,fun p q h1 h2 h3=>by omega⟩
    go_wp2_with fail
    exact ⟨rfl, .tuple #[],results_none rfl _ _ _,rfl,fk,HROW.out,HB.out,HSW.out⟩
   case pos=>
   obtain ⟨W1,rfl⟩:∃W1,W1=wr:=⟨_,rfl⟩
   obtain ⟨D,hD⟩:∃D,D=2 *s:=⟨_,rfl⟩
   have eD:2 *(s:Int)=(D:Int):=by omega
   have eD2:(s:Int) *2=(D:Int):=by omega
   have hD1:s<D:=by omega
   have hD2:D≤4 *N:=by omega
   have HDS:=Xa hD
   clear hD
   go_wp2_with fail
   go_loopw [7,8] (fun va vb wr=>∃(a b:Nat) (fk:Nat→Int),va= .int .i64 a∧vb= .int .i64 b∧Hid (b=a+D)∧a≤b∧b≤a+D∧Hid (D∣a)∧a≤N∧wr.rowIs g 3 N (Yq fk)∧Hid (Upto R f fk D a)∧Hid (Xel R f fk s a N)∧Hid (∀p,p<N→∃q,q<N∧fk p=f q)∧Sw g w0 wr) (fun va _ _=>N-(intOf va).toNat)
   case atStart=>exact ⟨0,D,fk,rfl,by go_num,by rw[Hid];omega,by omega,by omega,Nat.dvd_zero _,Nat.zero_le _,HROW.out,fun x _ h=>absurd h (by omega),HF,HI,HSW.out⟩
   case round=>
    clear HROW HSW HF HI
    obtain ⟨a,b,fk,rfl,rfl,HBD,hab1,hab2,HD,haN,hrow,HU,HF,HI,hsw⟩:=hrel
    have HROW:=Xa hrow
    have HSW:=Xa hsw
    clear hrow hsw
    obtain ⟨m,hm⟩:∃m,m=a+s:=⟨_,rfl⟩
    have em:(a:Int)+(s:Int)=(m:Int):=by omega
    have ham:a<m:=by omega
    have HMS:=Xa hm
    have HDA:Hid (s∣a):=Nat.dvd_trans ⟨2,by rw[HDS.out];omega⟩ HD.out
    have HDM:Hid (s∣m):=by rw[Hid,HMS.out];exact Nat.dvd_add HDA.out (Nat.dvd_refl _)
    have hmb:m+s=b:=by have:=HBD.out;have:=HDS.out;omega
    have HMB:=Xa hmb
    have hmlt:m<b:=by omega
    clear hm hmb
    have HB1:Hid (a<N→m≤N→Blk R f fk a m):=fun h1 h2=>by
     have:=HF.out a HDA.out (Nat.le_refl _) h1
     rw[show min (a+s) N=m by have:=HMS.out;omega] at this
     exact this
    have HB2:Hid (m<N→Blk R f fk m (min b N)):=fun h1=>by
     have:=HF.out m HDM.out (by omega) h1
     rw[HMB.out] at this
     exact this
    have HV:=Xa (Xks (R:=R) H.out.val HI.out)
    by_cases hle:b≤N
    case pos=>
     have k1:=HB1.out (by omega) (by omega)
     have k2:=HB2.out (by omega)
     rw[show min b N=b by omega] at k2
     have HA:Hid (Asked R cf g N w0 c1 c2 fk a m b wr):=⟨H.out.tot,H.out.cmp,H.out.cr,HROW.out,HSW.out,HV.out,ham,hmlt,hle,by omega,k1.2,k2.2,Xl4 H.out.up k1 k2 hle⟩
     have HK1:=Xa k1
     have HK2:=Xa k2
     clear k1 k2
     go_wp2_with fail
     refine (Xf2 R cf g N cap w0 c1 c2 (b-a) fk a m b wr (Nat.le_refl _) HA.out).mono ?_
     rintro e w2 ⟨rfl,f2,hr2,hm2,hs2⟩
     have HU2:Hid (Upto R f f2 D b):=by
      have hb:=Xjl HK1.out HK2.out hm2 (by omega) (by omega)
      rw[HBD.out] at hb
      rw[Hid,HBD.out]
      exact HU.out.snoc HD.out hb (fun p hp=>hm2.out p (Or.inl hp))
     have HF2:Hid (Xel R f f2 s b N):=by
      intro x hx h1 h2
      exact (HF.out x hx (by omega) h2).kept (fun p h3 h4=>hm2.out p (Or.inr (by omega)))
     have HI2:Hid (∀p,p<N→∃q,q<N∧f2 p=f q):=fun p hp=>by
      by_cases c:a≤p∧p<b
      ·obtain ⟨q,q1,q2,q3⟩:=hm2.inn p c.1 c.2
       rw[q3];exact HI.out q (by omega)
      ·rw[hm2.out p (by omega)];exact HI.out p hp
     have HD2:Hid (D∣b):=by rw[Hid,HBD.out];exact Nat.dvd_add HD.out (Nat.dvd_refl _)
     have HR2:=Xa hr2
     have HS2:=Xa hs2
     clear hr2 hm2 hs2
     go_wp2_with fail
     go_roundw
     case rel=>exact ⟨b,b+D,f2,rfl,by go_num,rfl,by omega,by omega,HD2,hle,HR2.out,HU2,HF2,HI2,HS2.out⟩
     case measure=>simp[intOf];omega
    case neg=>
    have hle':¬(b:Int)≤(N:Int):=by omega
    by_cases hmN:m<N
    case pos=>
     have hmN':(m:Int)<(N:Int):=by omega
     have k1:=HB1.out (by omega) (by omega)
     have k2:=HB2.out hmN
     rw[show min b N=N by omega] at k2
     have HA:Hid (Asked R cf g N w0 c1 c2 fk a m N wr):=⟨H.out.tot,H.out.cmp,H.out.cr,HROW.out,HSW.out,HV.out,ham,hmN,Nat.le_refl _,by omega,k1.2,k2.2,Xl4 H.out.up k1 k2 (Nat.le_refl _)⟩
     have HK1:=Xa k1
     have HK2:=Xa k2
     clear k1 k2
     go_wp2_with fail
     refine (Xf2 R cf g N cap w0 c1 c2 (N-a) fk a m N wr (Nat.le_refl _) HA.out).mono ?_
     rintro e w2 ⟨rfl,f2,hr2,hm2,hs2⟩
     have HF2:Hid (Xel R f f2 D 0 N):=Xh9 (fun x hx hlt=>(HU.out x hx hlt).kept (fun p h1 h2=>hm2.out p (Or.inl (by have:=Xem hx HD.out hlt;omega)))) HD.out haN (by have:=HBD.out;omega) (fun _=>Xjl HK1.out HK2.out hm2 (by omega) (by omega))
     have HI2:Hid (∀p,p<N→∃q,q<N∧f2 p=f q):=fun p hp=>by
      by_cases c:a≤p∧p<N
      ·obtain ⟨q,q1,q2,q3⟩:=hm2.inn p c.1 c.2
       rw[q3];exact HI.out q (by omega)
      ·rw[hm2.out p (by omega)];exact HI.out p hp
     have HR2:=Xa hr2
     have HS2:=Xa hs2
     clear hr2 hm2 hs2
     go_wp2_with fail
     go_roundw
     case rel=>exact ⟨D,f2,by go_num,by omega,by have:=HDS.out;omega,HR2.out,HF2,HI2,HS2.out⟩
     case measure=>simp[intOf];omega
    case neg=>
     have hmN':¬(m:Int)<(N:Int):=by omega
     have HF2:Hid (Xel R f fk D 0 N):=Xh9 HU.out HD.out haN (by have:=HBD.out;omega) (fun h=>by
      have:=HF.out a HDA.out (Nat.le_refl _) h
      rw[show min (a+s) N=N by have:=HMS.out;omega] at this
      exact this)
     go_wp2_with fail
     go_roundw
     case rel=>exact ⟨D,fk,by go_num,by omega,by have:=HDS.out;omega,HROW.out,HF2,HI,HSW.out⟩
     case measure=>simp[intOf];omega

theorem Xe1 {w:World} {b t n:Nat} {f:Nat→Value} (h:w.rowIs b t n f):WRow w b n:=fun j hj=>⟨⟨_,h.cell hj⟩,h.frozen j⟩
theorem OwnAt.marky {w:World} {b:Nat} {vs:List VN} {KB KI:Nat→Nat} (h:OwnAt w b vs KB KI) (hn:vs.length≤1048576) (hk:∀i,i<vs.length→(Xb vs i).keys.length≤1048576∧(Xb vs i).kids.length≤1048576):
  Marky b w b vs.length (fun i=>(Xb vs i).keys.length) (fun i=>(Xb vs i).kids.length) KB KI:=by
 have mono:∀i j,i<vs.length→j<vs.length→i≠j→KI i<KB j∨KI j<KB i:=by
  intro i j hi hj e
  rcases Nat.lt_or_gt_of_ne e with e|e
  ·exact Or.inl (h.to.mono i j e hj)
  ·exact Or.inr (h.to.mono j i e hi)
 refine ⟨Nat.le_refl _,h.row.lt,hn,Xe1 h.row,hk,fun i hi=> ?_,fun i hi=> ?_,fun i hi=> ?_,fun i j hi hj e _ _=> ?_,fun i j hi hj _ _=> ?_,fun i j hi hj e _ _=> ?_⟩
 ·refine ⟨_,_,by rw[h.row.cell (by omega),Xe8],fun _=>⟨rfl, ?_,(h.to.rk i hi).lt,Xe1 (h.to.rk i hi)⟩⟩
  have:=h.to.lo i hi
  omega
 ·refine ⟨_,_,by rw[h.row.cell (by omega),Xe9],fun _=>⟨rfl, ?_,(h.to.ri i hi).lt,Xe1 (h.to.ri i hi)⟩⟩
  have:=h.to.lo i hi
  omega
 ·have:=h.to.lo i hi
  exact ⟨fun _=>by omega,fun _=>by omega⟩
 ·have:=h.to.lo i hi
  have:=h.to.lo j hj
  have:=mono i j hi hj e
  omega
 ·have:=h.to.lo i hi
  have:=h.to.lo j hj
  by_cases e:i=j
  ·subst e;omega
  ·have:=mono i j hi hj e
   omega
 ·have:=h.to.lo i hi
  have:=h.to.lo j hj
  have:=mono i j hi hj e
  omega
theorem OwnAt.marked {w:World} {b x:Nat} {vs:List VN} {KB KI:Nat→Nat} (h:OwnAt w b vs KB KI) (hx:Xav b vs.length (fun i=>(Xb vs i).keys.length) (fun i=>(Xb vs i).kids.length) KB KI x):b≤x∧x<w.heap.size:=by
 obtain ⟨_,rfl|⟨i,hi,⟨_,rfl⟩|⟨_,rfl⟩⟩⟩:=hx
 ·exact ⟨Nat.le_refl _,h.row.lt⟩
 ·have:=h.to.lo i hi
  exact ⟨by omega,(h.to.rk i hi).lt⟩
 ·have:=h.to.lo i hi
  exact ⟨by omega,(h.to.ri i hi).lt⟩

theorem Xi8 (B:Nat) (v:Value) (l:List Int) (r:Int) (w:World) (h:RawInts B w v l) (h1:0≤r) (h2:r≤1048576):
  Calls Tryz.prog 88 #[v, .int .i64 r] w fun e w'=>(∃q,e= .returned (.int .i64 q)∧q≤1048576∧(0≤q→q+l.length≤r))∧w'=w:=by
 obtain ⟨hlen,_,a,cap,rfl,_⟩:=h
 go_enter Tryz.func88,Tryz.ntmps88
 go_wp2
 ·go_ret
  exact ⟨⟨_,rfl,by omega,fun h=>by omega⟩,rfl⟩
 ·go_ret
  exact ⟨⟨_,rfl,by omega,fun h=>by omega⟩,rfl⟩
theorem Xhb (B:Nat) (v:Value) (l:List ByteArray) (r:Int) (w:World) (h:RawStrs B w v l) (h1:0≤r) (h2:r≤1048576):
  Calls Tryz.prog 87 #[v, .int .i64 r] w fun e w'=>(∃q,e= .returned (.int .i64 q)∧q≤1048576∧(0≤q→q+l.length≤r∧∀i,i<l.length→(Xh l i).size≤1048576))∧w'=w:=by
 obtain ⟨hlen,hsz,a,cap,rfl,hcell⟩:=h
 go_enter Tryz.func87,Tryz.ntmps87
 go_wp2
 ·go_ret
  exact ⟨⟨_,rfl,by omega,fun h=>by omega⟩,rfl⟩
 ·go_loop [1,5] (fun t i=>∃(k:Nat) (q:Int),k≤l.length∧i= .int .i64 k∧t= .int .i64 q∧0≤q∧q+l.length≤r∧Hid (∀j,j<k→(Xh l j).size≤1048576)) (fun _ i=>l.length-(intOf i).toNat)
  case atStart=>exact ⟨0,_,Nat.zero_le _,rfl,rfl,by omega,by omega,fun j hj=>by omega⟩
  case round=>
   obtain ⟨k,q,hk,rfl,rfl,hq0,hq1,HS⟩:=hrel
   by_cases hlt:k<l.length
   ·obtain ⟨b,o,rfl,_,hc⟩:=hcell (by omega)
    have hck:=hc k hlt
    have hs:=hsz k hlt
    clear hc hcell hsz
    go_wp2
    ·go_ret
     exact ⟨⟨_,rfl,by omega,fun h=>by omega⟩,rfl⟩
    ·go_round
     case rel=>
      refine ⟨k+1,_,by omega,by go_num,rfl,by omega,by omega,fun j hj=> ?_⟩
      by_cases e:j=k
      ·subst e;omega
      ·exact HS.out j (by omega)
     case measure=>simp[intOf];omega
   ·obtain rfl:k=l.length:=by omega
    go_wp2
    go_ret
    exact ⟨⟨_,rfl,by omega,fun _=>⟨by omega,HS.out⟩⟩,rfl⟩
theorem Xyd (B:Nat) (x:VN) (ka ki:Value) (r:Int) (w:World) (h:RawIn B w x ka ki) (hB:B≤w.heap.size) (h1:0≤r) (h2:r≤1048576):
  Calls Tryz.prog 42 #[.agg #[.int .i64 x.kind, .int .i64 x.n, .string x.s,ka,ki], .int .i64 r] w fun e w'=>(∃q,e= .returned (.int .i64 q)∧q≤1048576∧(0≤q→Small x∧q+x.keys.length+x.kids.length≤r))∧Below w.heap.size w w':=by
 have hsz:=h.size
 obtain ⟨_,_,a1,c1,e1,_⟩:=h.keys
 obtain ⟨_,_,a2,c2,e2,_⟩:=h.kids
 have hbel:∀(o:Obj),Below w.heap.size w (w.alloc o):=fun o=>(Below.refl _ _).alloc (Nat.le_refl _) o
 have H:=Xa h
 subst e1 e2
 clear h
 go_enter Tryz.func42,Tryz.ntmps42
 go_wp2_with fail
 ·go_ret
  exact ⟨⟨_,rfl,by omega,fun h=>by omega⟩,hbel _⟩
 ·refine (Xhb B _ _ _ _ (H.out.keys.below ((hbel _).mono hB)) (by omega) (by omega)).mono ?_
  rintro e w' ⟨⟨q,rfl,hq,hk⟩,rfl⟩
  have HK:=Xa hk
  have hle:(x.s.size:Int)≤1048576:=by omega
  clear hk
  go_wp2_with fail
  ·go_ret
   exact ⟨⟨_,rfl,by omega,fun h=>by omega⟩,hbel _⟩
  ·have h0:0≤q:=by omega
   have hq2:=(HK.out h0).1
   refine (Xi8 B _ _ _ _ (H.out.kids.below ((hbel _).mono hB)) (by omega) (by omega)).mono ?_
   rintro e w' ⟨⟨q',rfl,hq',hk'⟩,rfl⟩
   have HK':=Xa hk'
   clear hk'
   go_wp2_with fail
   ·go_ret
    exact ⟨⟨_,rfl,by omega,fun h=>by omega⟩,hbel _⟩
   ·go_ret
    refine ⟨⟨_,rfl,by omega,fun h=> ?_⟩,hbel _⟩
    have h3:=HK'.out h
    exact ⟨⟨by omega,by omega,(HK.out h0).2,by omega⟩,by omega⟩
def knW (vs:List VN) (i:Nat):Nat:=(Xb vs i).keys.length
def inW (vs:List VN) (i:Nat):Nat:=(Xb vs i).kids.length
def wt (vs:List VN):Nat:=off (knW vs) (inW vs) 0 vs.length
theorem Xi9 (B:Nat) (v:Value) (vs:List VN) (r:Int) (w:World) (h:RawNodes B w v vs) (hB:B≤w.heap.size) (h1:0≤r) (h2:r≤1048576):
  Calls Tryz.prog 12 #[v, .int .i64 r] w fun e w'=>(∃q,e= .returned (.int .i64 q)∧q≤1048576∧(0≤q→vs.length≤1048576∧(∀i,i<vs.length→Small (Xb vs i))∧wt vs+3 *q≤3 *r))∧Below w.heap.size w w':=by
 have HW:Hid (wt vs=off (knW vs) (inW vs) 0 vs.length):=rfl
 obtain ⟨hlen,a,cap,rfl,hcell⟩:=h
 go_enter Tryz.func12,Tryz.ntmps12
 go_wp2_with fail
 ·go_ret
  exact ⟨⟨_,rfl,by omega,fun h=>by omega⟩,Below.refl _ _⟩
 ·go_loopw [1,5] (fun t i wr=>∃(k:Nat) (q:Int),k≤vs.length∧i= .int .i64 k∧t= .int .i64 q∧0≤q∧q≤r∧Hid (∀j,j<k→Small (Xb vs j))∧Hid ((off (knW vs) (inW vs) 0 k:Int)+3 *q+3 *(vs.length-k)≤3 *r)∧Below w.heap.size w wr) (fun _ i _=>vs.length-(intOf i).toNat)
  case atStart=>exact ⟨0,_,Nat.zero_le _,rfl,rfl,by omega,by omega,fun j hj=>by omega,by simp[Hid,off];omega,Below.refl _ _⟩
  case round=>
   obtain ⟨k,q,hk,rfl,rfl,hq0,hq1,HS,HO,hbel⟩:=hrel
   by_cases hlt:k<vs.length
   ·obtain ⟨b,o,rfl,hbB,hc⟩:=hcell (by omega)
    obtain ⟨ka,ki,hn⟩:=hc k hlt
    have hn':=hn.below (hbel.mono hB) hbB
    have c0:=hn'.c0
    have c1:=hn'.c1
    have c2:=hn'.c2
    have c3:=hn'.c3
    have c4:=hn'.c4
    have hin:=Xa hn'.inn
    have hsize:=hbel.size
    clear hc hcell hn hn'
    go_wp2_with fail
    refine (Xyd B (Xb vs k) ka ki _ _ hin.out (by omega) (by omega) (by omega)).mono ?_
    rintro e w' ⟨⟨q',rfl,hq',hsm⟩,hb'⟩
    have hb2:Below w.heap.size w w':=hbel.trans (hb'.mono hsize)
    have HM:=Xa hsm
    clear hsm
    go_wp2_with fail
    ·go_ret
     exact ⟨⟨_,rfl,by omega,fun h=>by omega⟩,hb2⟩
    ·have hm2:=Xa (HM.out (by omega)).2
     have hle:q'≤q:=by have:=hm2.out;omega
     have HO2:Hid ((off (knW vs) (inW vs) 0 (k+1):Int)+3 *q'+3 *(vs.length-(k+1:Nat))≤3 *r):=by
      have a1:=HO.out
      have a2:=hm2.out
      show ((off (knW vs) (inW vs) 0 k+3+(Xb vs k).keys.length+(Xb vs k).kids.length:Nat):Int)+3 *q'+3 *(vs.length-(k+1:Nat))≤3 *r
      omega
     go_roundw
     case rel=>
      refine ⟨k+1,_,by omega,by go_num,rfl,by omega,by omega,fun j hj=> ?_,HO2.out,hb2⟩
      by_cases e:j=k
      ·subst e;exact (HM.out (by omega)).1
      ·exact HS.out j (by omega)
     case measure=>simp[intOf];omega
   ·obtain rfl:k=vs.length:=by omega
    go_wp2_with fail
    go_ret
    refine ⟨⟨_,rfl,by omega,fun _=>⟨by omega,HS.out, ?_⟩⟩,hbel⟩
    have:=HO.out
    rw[HW.out]
    omega

theorem Xjj {P:Program} {w:World} (base:Nat) (t ty e:TypeId) (i:TypeInfo) (size c:Nat) (ax:Option Addr) (ht:P.underlying t=some (.slice e)) (hi:P.info? e=some i)
  (v:Value) (n:Nat) (xs:List Value) (hown:w.ownsRow base e size v n xs):
  (Builtin.append_ #[t,t] ty #[v, .slice ax 0 c]).run P w= .ok v w:=by
 rcases hown.2 with ⟨rfl,rfl⟩|⟨g,cap,cur,rfl,_,_,hnc,_⟩
 ·cases ax<;>simp[Builtin.append_,run_underlying ht,sizeOf,typeInfo,hi,Builtin.lenOf,Builtin.firstCells,loadCells,loadCellsFrom,Result.andThen]
 ·cases ax<;>simp[Builtin.append_,run_underlying ht,sizeOf,typeInfo,hi,Builtin.lenOf,Builtin.firstCells,hnc,storeCells,loadCells,loadCellsFrom,Result.andThen]
theorem Zl {P:Program} {w:World} {ops:Array Oper} {o:Oper} {a:Act} {K:Act→World→Prop} {Q:Exit→Act→World→Prop} {E:Prop} (hgd:o.guard=none) (s x:Operand) (t:TypeId)
  (ho:o.op= .call {callee:= .builtin .append,args:= #[s,x],argTypes:= #[t,t]})
  (base:Nat) (e:TypeId) (i:TypeInfo) (z:Value) (size bytes:Nat) (ht:P.underlying t=some (.slice e)) (hi:P.info? e=some i) (hz:i.zero=some z)
  (hsize:i.size=size) (hby:i.bytes=bytes) (hzs:z.cells.size=size) (hsz:0<size)
  (v:Value) (n:Nat) (xs:List Value) (hs:a.eval s=v) (hown:w.ownsRow base e size v n xs)
  (ax:Option Addr) (m c:Nat) (news:List Value) (hx:a.eval x= .slice ax m c) (hl:news.length=m *size) (hsrc:0<m→∃ad,ax=some ad∧∀j u,news[j]? =some u→w.cell? (ad.add j)=some u) (h1:∀u∈news,u.oneCell'=true)
  (h63:n+m≤maxLen) (hbytes:(n+m) *bytes≤140737488355328) (hbase:base≤w.heap.size)
  (h:∀v' w',w'.ownsRow base e size v' (n+m) (xs++news)→w.grownBy w' v.ownBlock→(v'.ownBlock=v.ownBlock∨v'.ownBlock=some w.heap.size)→K (a.put o.dst v') w'):
  if Region.wanted o (yielded ops a.tmps)=true then Oper.wp P o a w K Q else E:=by
 have hw:Region.wanted o (yielded ops a.tmps)=true:=by simp[Region.wanted,hgd]
 rw[if_pos hw]
 rcases Nat.eq_zero_or_pos m with e0|e0
 ·subst e0
  obtain rfl:news= []:=List.eq_nil_of_length_eq_zero (by simpa using hl)
  have hrun:=Xjj (P:=P) (w:=w) base t o.type e i size c ax ht hi v n xs hown
  unfold Oper.wp
  simp[execOp,ho,resolve,invoke,builtin,hs,hx,hrun,Result.andThen]
  exact h v w (by simpa using hown) ⟨rfl,rfl,rfl,Nat.le_refl _,fun _ _ _=>rfl⟩ (Or.inl rfl)
 ·obtain ⟨ad,rfl,hc⟩:=hsrc e0
  exact wp_append_lies w s x t ho base e i z size bytes ht hi hz hsize hby hzs hsz v n xs hs hown ad m c news hx hl hc h1 e0 h63 hbytes hbase w.heap.size rfl (fun g cap w' h2 h3 h4 _=>h _ w' h2 h3 (by
   rcases h4 with h4|h4
   ·exact Or.inl (by rw[h4];rfl)
   ·exact Or.inr (by rw[h4];rfl)))
theorem Jg {P:Program} {w:World} {ops:Array Oper} {o:Oper} {a:Act} {K:Act→World→Prop} {Q:Exit→Act→World→Prop} {E:Prop} (hgd:o.guard=none) (F:FuncId) (x1 x2 x3 x4:Operand) (T1 T2 T3 T4:TypeId)
  (ho:o.op= .call {callee:= .value (.func F),args:= #[x1,x2,x3,x4],argTypes:= #[T1,T2,T3,T4]}) (v1 v2 v3 v4:Value) (h1:a.eval x1=v1) (h2:a.eval x2=v2) (h3:a.eval x3=v3) (h4:a.eval x4=v4) (hcf:∀w,(callFunc F #[v1,v2,v3,v4]).run P w= .ok (.enter F #[v1,v2,v3,v4]) w) {R:Ending→World→Prop} (hc:Calls P F #[v1,v2,v3,v4] w R)
  (h:∀e w',R e w'→∃u,e= .returned u∧K (a.put o.dst u) w'):
  if Region.wanted o (yielded ops a.tmps)=true then Oper.wp P o a w K Q else E:=by
 have hw:Region.wanted o (yielded ops a.tmps)=true:=by simp[Region.wanted,hgd]
 rw[if_pos hw]
 unfold Oper.wp execOp
 have e1:a.eval (.func F)= .func (.func F) #[] #[]:=rfl
 simp[ho,resolve,invoke,h1,h2,h3,h4,e1,Deferred.ofValue,hcf,Result.andThen,Oper.upon_enter]
 refine hc.mono fun e w' hr=> ?_
 obtain ⟨u,rfl,hk⟩:=h e w' hr
 exact hk

end Go.Proofs.YtdjddneidbddpaaGreatDoor
