import Derived.Test.YtdjddneidbddpaaGreatDoorStbS
import Derived.Deep.AppendLies
import Derived.Maps.AppendAt
import Derived.Laws.OwnMore
import Derived.Test.YtdjddneidbddpaaGreatDoorByP
import Derived.Test.YtdjddneidbddpaaGreatDoorStepI
import Derived.Test.YtdjddneidbddpaaGreatDoorProg
import Derived.Deep.OwnRows
import Derived.KernelRfl
import Derived.Deep.QuietTactic
import Derived.BigQuiet
import Derived.WalkSmall
import Derived.Deep.RegionWith
namespace Go.Proofs.YtdjddneidbddpaaGreatDoor
set_option linter.unusedSectionVars false
set_option maxRecDepth 100000
set_option maxHeartbeats 16000000
open Go.RowKit
set_option linter.unusedSimpArgs false
set_option linter.unusedVariables false
def J2 (vs:List VN) (KV IV:Nat->Value) (j:Nat):Value:=
 if j%5=0 then .int .i64 (Xb vs (j/5)).kind
 else if j%5=1 then .int .i64 (Xb vs (j/5)).n
 else if j%5=2 then .string (Xb vs (j/5)).s
 else if j%5=3 then KV (j/5)
 else IV (j/5)
def Kd (vs:List VN) (KV IV:Nat->Value):List Value:=(List.range (vs.length *5)).map (J2 vs KV IV)
def upd (F:Nat->Value) (k:Nat) (v:Value) (i:Nat):Value:=if i=k then v else F i
theorem Vc (F:Nat->Value) (k:Nat) (v:Value):upd F k v k=v:=if_pos rfl
theorem Z2 (F:Nat->Value) {k i:Nat} (v:Value) (h:i≠k):upd F k v i=F i:=if_neg h
theorem Wk {vs:List VN} {x:VN} {i:Nat} (h:i<vs.length):Xb (vs++ [x]) i=Xb vs i:=by
 unfold Xb;rw[List.getD_eq_getElem?_getD,List.getD_eq_getElem?_getD,List.getElem?_append_left h]
theorem U1 {vs:List VN} {x:VN}:Xb (vs++ [x]) vs.length=x:=by
 unfold Xb;rw[List.getD_eq_getElem?_getD];simp
theorem Xcx (vs:List VN) (x:VN) (KV IV:Nat->Value) (kv iv:Value):
  Kd (vs++ [x]) (upd KV vs.length kv) (upd IV vs.length iv)=Kd vs KV IV++ [.int .i64 x.kind, .int .i64 x.n, .string x.s,kv,iv]:=by
 unfold Kd
 rw[List.length_append,show (vs.length+ [x].length) *5=vs.length *5+5 by simp;omega,List.range_add,List.map_append]
 congr 1
 ·apply List.map_congr_left
  intro j d
  have f:j<vs.length *5:=List.mem_range.1 d
  unfold J2
  rw[Wk (show j/5<vs.length by omega),Z2 _ _ (show j/5≠vs.length by omega),Z2 _ _ (show j/5≠vs.length by omega)]
 ·have b:∀k,k<5->(vs.length *5+k)%5=k:=fun k hk=>by omega
  have c:∀k,k<5->(vs.length *5+k)/5=vs.length:=fun k hk=>by omega
  have g:List.range 5= [0,1,2,3,4]:=rfl
  rw[g]
  simp only[List.map_cons,List.map_nil,J2,b 0 (by omega),b 1 (by omega),b 2 (by omega),b 3 (by omega),b 4 (by omega),c 0 (by omega),c 1 (by omega),c 2 (by omega),c 3 (by omega),c 4 (by omega),U1,Vc]
  simp
theorem Yj {w:World} {b b' e e' s s' n n':Nat} {v v':Value} {xs xs':List Value} (h:w.ownsRow b e s v n xs) (h':w.ownsRow b' e' s' v' n' xs') (hne:e≠e'):v.ownBlock=none\/v.ownBlock≠v'.ownBlock:=by
 rcases h.2 with ⟨rfl,_⟩|⟨g,cap,cur,rfl,_,hg,_⟩
 ·exact Or.inl rfl
 ·right
  rcases h'.2 with ⟨rfl,_⟩|⟨g',cap',cur',rfl,_,hg',_⟩
  ·simp[Value.ownBlock]
  ·intro e
   have c:g=g':=by simpa [Value.ownBlock] using e
   subst c
   rw[hg] at hg'
   simp at hg'
   exact hne hg'.2
structure Nest (base:Nat) (w:World) (v:Value) (vs:List VN) (KV IV:Nat->Value):Prop where
 row:w.ownsRow base 75 5 v vs.length (Kd vs KV IV)
 rk:∀i,i<vs.length->w.ownsRow base 9 1 (KV i) (Xb vs i).keys.length ((Xb vs i).keys.map .string)
 ri:∀i,i<vs.length->w.ownsRow base 2 1 (IV i) (Xb vs i).kids.length ((Xb vs i).kids.map (.int .i64))
 dkk:∀i j,i<vs.length->j<vs.length->i≠j->∀x,(KV i).ownBlock=some x->(KV j).ownBlock≠some x
 dii:∀i j,i<vs.length->j<vs.length->i≠j->∀x,(IV i).ownBlock=some x->(IV j).ownBlock≠some x
theorem Nest.nil (base:Nat) (w:World) (KV IV:Nat->Value):Nest base w (.slice none 0 0) [] KV IV:=
 ⟨World.ownsRow_nil _ _ _ _,fun i hi=>absurd hi (by simp),fun i hi=>absurd hi (by simp),fun i j hi=>absurd hi (by simp),fun i j hi=>absurd hi (by simp)⟩
theorem Nest.kept {base:Nat} {w w':World} {v:Value} {vs:List VN} {KV IV:Nat->Value} {row:Option Nat} (h:Nest base w v vs KV IV) (hg:w.grownBy w' row) (hv:v.ownBlock=none\/v.ownBlock≠row)
  (hk:∀i,i<vs.length->(KV i).ownBlock=none\/(KV i).ownBlock≠row) (hi:∀i,i<vs.length->(IV i).ownBlock=none\/(IV i).ownBlock≠row):Nest base w' v vs KV IV:=
 ⟨h.row.kept hg hv,fun i hi'=>(h.rk i hi').kept hg (hk i hi'),fun i hi'=>(h.ri i hi').kept hg (hi i hi'),h.dkk,h.dii⟩
theorem Nest.snoc {base:Nat} {w w':World} {v v':Value} {vs:List VN} {KV IV:Nat->Value} {x:VN} {kv iv:Value} (h:Nest base w v vs KV IV)
  (hk:w.ownsRow base 9 1 kv x.keys.length (x.keys.map .string)) (hi:w.ownsRow base 2 1 iv x.kids.length (x.kids.map (.int .i64)))
  (fk:∀i,i<vs.length->∀y,kv.ownBlock=some y->(KV i).ownBlock≠some y) (fi:∀i,i<vs.length->∀y,iv.ownBlock=some y->(IV i).ownBlock≠some y)
  (hown:w'.ownsRow base 75 5 v' (vs.length+1) (Kd vs KV IV++ [.int .i64 x.kind, .int .i64 x.n, .string x.s,kv,iv])) (hg:w.grownBy w' v.ownBlock):
  Nest base w' v' (vs++ [x]) (upd KV vs.length kv) (upd IV vs.length iv):=by
 refine ⟨?_,fun i hi'=> ?_,fun i hi'=> ?_,fun i j hi' hj' e y=> ?_,fun i j hi' hj' e y=> ?_⟩
 ·rw[Xcx];simpa using hown
 ·by_cases e:i=vs.length
  ·subst e;rw[Vc,U1];exact hk.kept hg (Yj hk h.row (by decide))
  ·have b:i<vs.length:=by simp at hi';omega
   rw[Z2 _ _ e,Wk b];exact (h.rk i b).kept hg (Yj (h.rk i b) h.row (by decide))
 ·by_cases e:i=vs.length
  ·subst e;rw[Vc,U1];exact hi.kept hg (Yj hi h.row (by decide))
  ·have b:i<vs.length:=by simp at hi';omega
   rw[Z2 _ _ e,Wk b];exact (h.ri i b).kept hg (Yj (h.ri i b) h.row (by decide))
 ·simp at hi' hj'
  by_cases e1:i=vs.length
  ·subst e1
   rw[Vc,Z2 _ _ (fun e2=>e e2.symm)]
   exact fk j (by omega) y
  ·by_cases e2:j=vs.length
   ·subst e2
    rw[Vc,Z2 _ _ e1]
    intro c d
    exact fk i (by omega) y d c
   ·rw[Z2 _ _ e1,Z2 _ _ e2]
    exact h.dkk i j (by omega) (by omega) e y
 ·simp at hi' hj'
  by_cases e1:i=vs.length
  ·subst e1
   rw[Vc,Z2 _ _ (fun e2=>e e2.symm)]
   exact fi j (by omega) y
  ·by_cases e2:j=vs.length
   ·subst e2
    rw[Vc,Z2 _ _ e1]
    intro c d
    exact fi i (by omega) y d c
   ·rw[Z2 _ _ e1,Z2 _ _ e2]
    exact h.dii i j (by omega) (by omega) e y
theorem Ji (vs:List VN) (KV IV:Nat->Value) {j:Nat} (h:j<vs.length *5):(Kd vs KV IV)[j]? =some (J2 vs KV IV j):=by
 unfold Kd;rw[List.getElem?_map,List.getElem?_range h];rfl
theorem Xbq {base:Nat} {w:World} {v:Value} {l:List ByteArray} (h:w.ownsRow base 9 1 v l.length (l.map .string)) (h1:l.length<=8796093022208) (h2:∀i,i<l.length->(Xf l i).size<=140737488355328):StrsAt w.heap.size w v l:=by
 refine ⟨h1,h2, ?_⟩
 rcases Nat.eq_zero_or_pos l.length with e|e
 ·rcases h.2 with ⟨rfl,_⟩|⟨g,b,cur,rfl,_⟩
  ·exact ⟨none,0,by rw[e],fun hp=>by omega⟩
  ·exact ⟨_,b,rfl,fun hp=>by omega⟩
 ·obtain ⟨g,b,rfl,_,c⟩:=h.form e
  refine ⟨_,b,rfl,fun _=>⟨g,0,rfl,c,fun i hi=> ?_⟩⟩
  rw[Nat.zero_add,h.cellAt i (by omega)]
  simp[Xf,hi]
theorem Xz3 {base:Nat} {w:World} {v:Value} {l:List Int} (h:w.ownsRow base 2 1 v l.length (l.map (.int .i64))) (h1:l.length<=17592186044416) (h2:∀i,i<l.length->-9223372036854775808<=Xj l i/\Xj l i<=9223372036854775807):IntsAt w.heap.size w v l:=by
 refine ⟨h1,h2, ?_⟩
 rcases Nat.eq_zero_or_pos l.length with e|e
 ·rcases h.2 with ⟨rfl,_⟩|⟨g,b,cur,rfl,_⟩
  ·exact ⟨none,0,by rw[e],fun hp=>by omega⟩
  ·exact ⟨_,b,rfl,fun hp=>by omega⟩
 ·obtain ⟨g,b,rfl,_,c⟩:=h.form e
  refine ⟨_,b,rfl,fun _=>⟨g,0,rfl,c,fun i hi=> ?_⟩⟩
  rw[Nat.zero_add,h.cellAt i (by omega)]
  simp[Xj,hi]
theorem Nest.nodes {base:Nat} {w:World} {v:Value} {vs:List VN} {KV IV:Nat->Value} (h:Nest base w v vs KV IV) (hn:vs.length<=1759218604416) (hf:∀i,i<vs.length->Fits (Xb vs i)):NodesAt w.heap.size w v vs:=by
 refine ⟨hn, ?_⟩
 rcases Nat.eq_zero_or_pos vs.length with e|e
 ·rcases h.row.2 with ⟨rfl,_⟩|⟨g,b,cur,rfl,_⟩
  ·exact ⟨none,0,by rw[e],fun hp=>by omega⟩
  ·exact ⟨_,b,rfl,fun hp=>by omega⟩
 ·obtain ⟨g,b,rfl,_,c⟩:=h.row.form e
  refine ⟨_,b,rfl,fun _=>⟨g,0,rfl,c,fun i hi=>⟨KV i,IV i, ?_⟩⟩⟩
  have f:=hf i hi
  have q:∀k,k<5->(i *5+k)%5=k/\(i *5+k)/5=i:=fun k hk=>by omega
  have d:=q 0 (by omega)
  rw[Nat.add_zero] at d
  rw[Nat.zero_add]
  refine ⟨?_, ?_, ?_, ?_, ?_,⟨Xbq (h.rk i hi) f.keysN f.keysS,Xz3 (h.ri i hi) f.kidsN f.kidsB,f.size,f.klo,f.khi,f.nlo,f.nhi⟩⟩
  ·rw[h.row.cellAt _ (by omega),Ji _ _ _ (by omega),J2,d.1,d.2];rfl
  ·rw[h.row.cellAt _ (by omega),Ji _ _ _ (by omega),J2,(q 1 (by omega)).1,(q 1 (by omega)).2];rfl
  ·rw[h.row.cellAt _ (by omega),Ji _ _ _ (by omega),J2,(q 2 (by omega)).1,(q 2 (by omega)).2];rfl
  ·rw[h.row.cellAt _ (by omega),Ji _ _ _ (by omega),J2,(q 3 (by omega)).1,(q 3 (by omega)).2];rfl
  ·rw[h.row.cellAt _ (by omega),Ji _ _ _ (by omega),J2,(q 4 (by omega)).1,(q 4 (by omega)).2];rfl
theorem Xhd {base e s g n cap:Nat} {w:World} {xs:List Value} (h:w.ownsRow base e s (.slice (some ⟨g,0,none⟩) n cap) n xs):WRow w g (n *s):=by
 intro j b
 refine ⟨⟨xs[j]'(by have:=h.1;omega), ?_⟩,h.frozenAt j⟩
 rw[h.cellAt j b,List.getElem?_eq_getElem]
theorem Nest.marky {base g cap:Nat} {w:World} {vs:List VN} {KV IV:Nat->Value} (h:Nest base w (.slice (some ⟨g,0,none⟩) vs.length cap) vs KV IV) (hn:vs.length<=1048576) (hk:∀i,i<vs.length->(Xb vs i).keys.length<=1048576/\(Xb vs i).kids.length<=1048576):
  Marky base w g vs.length (fun i=>(Xb vs i).keys.length) (fun i=>(Xb vs i).kids.length) (fun i=>((KV i).ownBlock).getD 0) (fun i=>((IV i).ownBlock).getD 0):=by
 have B:=h.row.lt g rfl
 have q:∀i k,k<5->(i *5+k)%5=k/\(i *5+k)/5=i:=fun i k hk=>by omega
 have l:∀i,i<vs.length->0<(Xb vs i).keys.length->∃y c,KV i= .slice (some ⟨y,0,none⟩) (Xb vs i).keys.length c/\base<=y/\y<w.heap.size:=fun i hi hp=>(h.rk i hi).form hp
 have o:∀i,i<vs.length->0<(Xb vs i).kids.length->∃y c,IV i= .slice (some ⟨y,0,none⟩) (Xb vs i).kids.length c/\base<=y/\y<w.heap.size:=fun i hi hp=>(h.ri i hi).form hp
 refine ⟨B.1,B.2,hn,Xhd h.row,hk,fun i hi=> ?_,fun i hi=> ?_,fun i hi=>⟨fun hp=> ?_,fun hp=> ?_⟩,fun i j hi hj e hp hp'=> ?_,fun i j hi hj hp hp'=> ?_,fun i j hi hj e hp hp'=> ?_⟩
 ·have f:w.cell? ⟨g,i *5+3,none⟩=some (KV i):=by
   rw[h.row.cellAt _ (by omega),Ji _ _ _ (by omega),J2,(q i 3 (by omega)).1,(q i 3 (by omega)).2];rfl
  rcases Nat.eq_zero_or_pos (Xb vs i).keys.length with e|e
  ·rcases (h.rk i hi).2 with ⟨b,_⟩|⟨y,c,cur,b,_⟩
   ·exact ⟨none,0,by rw[f,b,e],fun hp=>by omega⟩
   ·exact ⟨_,c,by rw[f,b],fun hp=>by omega⟩
  ·obtain ⟨y,c,b,t,z⟩:=l i hi e
   have p:=h.rk i hi
   rw[b] at p
   refine ⟨_,c,by rw[f,b],fun _=> ?_⟩
   rw[b]
   exact ⟨rfl,t,z,by have:=Xhd p;simpa [Value.ownBlock] using this⟩
 ·have f:w.cell? ⟨g,i *5+4,none⟩=some (IV i):=by
   rw[h.row.cellAt _ (by omega),Ji _ _ _ (by omega),J2,(q i 4 (by omega)).1,(q i 4 (by omega)).2];rfl
  rcases Nat.eq_zero_or_pos (Xb vs i).kids.length with e|e
  ·rcases (h.ri i hi).2 with ⟨b,_⟩|⟨y,c,cur,b,_⟩
   ·exact ⟨none,0,by rw[f,b,e],fun hp=>by omega⟩
   ·exact ⟨_,c,by rw[f,b],fun hp=>by omega⟩
  ·obtain ⟨y,c,b,t,z⟩:=o i hi e
   have p:=h.ri i hi
   rw[b] at p
   refine ⟨_,c,by rw[f,b],fun _=> ?_⟩
   rw[b]
   exact ⟨rfl,t,z,by have:=Xhd p;simpa [Value.ownBlock] using this⟩
 ·obtain ⟨y,c,b,_⟩:=l i hi hp
  have:=Yj (h.rk i hi) h.row (by decide)
  rw[b] at this|-
  simpa [Value.ownBlock] using this
 ·obtain ⟨y,c,b,_⟩:=o i hi hp
  have:=Yj (h.ri i hi) h.row (by decide)
  rw[b] at this|-
  simpa [Value.ownBlock] using this
 ·obtain ⟨y,c,b,_⟩:=l i hi hp
  obtain ⟨C,D,d,_⟩:=l j hj hp'
  have:=h.dkk i j hi hj e y (by rw[b];rfl)
  rw[d] at this
  simp only[b,d]
  intro s
  exact this (by simp[Value.ownBlock] at s|-;exact s.symm)
 ·obtain ⟨y,c,b,_⟩:=l i hi hp
  obtain ⟨C,D,d,_⟩:=o j hj hp'
  have:=Yj (h.rk i hi) (h.ri j hj) (by decide)
  rw[b,d] at this
  simp only[b,d]
  simpa [Value.ownBlock] using this
 ·obtain ⟨y,c,b,_⟩:=o i hi hp
  obtain ⟨C,D,d,_⟩:=o j hj hp'
  have:=h.dii i j hi hj e y (by rw[b];rfl)
  rw[d] at this
  simp only[b,d]
  intro s
  exact this (by simp[Value.ownBlock] at s|-;exact s.symm)


def Xr (kind n:Int) (s:ByteArray):List VN:= [{kind:=kind,n:=n,s:=s,keys:= [],kids:= []}]
theorem Vt (w:World) (kind n:Int) (s:ByteArray):Nest w.heap.size (w.alloc (.cells #[.int .i64 kind, .int .i64 n, .string s, .slice none 0 0, .slice none 0 0] 75)) (.slice (some ⟨w.heap.size,0,none⟩) 1 1) (Xr kind n s) (fun _=> .slice none 0 0) (fun _=> .slice none 0 0):=by
 refine ⟨?_,fun i hi=> ?_,fun i hi=> ?_,fun i j hi hj hne=> ?_,fun i j hi hj hne=> ?_⟩
 ·have:=World.ownsRow_lit (base:=w.heap.size) (e:=75) (size:=5) w #[.int .i64 kind, .int .i64 n, .string s, .slice none 0 0, .slice none 0 0] 1 (Nat.le_refl _) (by simp[maxLen]) rfl
  have b:upd (fun _=>Value.slice none 0 0) 0 (.slice none 0 0)=fun _=> .slice none 0 0:=by funext i;unfold upd;split<;>rfl
  have e:Kd (Xr kind n s) (fun _=> .slice none 0 0) (fun _=> .slice none 0 0)= [.int .i64 kind, .int .i64 n, .string s, .slice none 0 0, .slice none 0 0]:=by
   have h:=Xcx [] {kind:=kind,n:=n,s:=s,keys:= [],kids:= []} (fun _=> .slice none 0 0) (fun _=> .slice none 0 0) (.slice none 0 0) (.slice none 0 0)
   simp only[List.length_nil,b,List.nil_append] at h
   exact h
  rw[e]
  exact this
 ·obtain rfl:i=0:=by simp[Xr] at hi;omega
  exact World.ownsRow_nil _ _ _ _
 ·obtain rfl:i=0:=by simp[Xr] at hi;omega
  exact World.ownsRow_nil _ _ _ _
 ·simp[Xr] at hi hj;omega
 ·simp[Xr] at hi hj;omega


theorem Xeg {P:Program} {w:World} (base:Nat) (t ty e:TypeId) (i:TypeInfo) (size c:Nat) (ht:P.underlying t=some (.slice e)) (hi:P.info? e=some i)
  (v:Value) (n:Nat) (xs:List Value) (hown:w.ownsRow base e size v n xs):
  (Builtin.append_ #[t,t] ty #[v, .slice none 0 c]).run P w= .ok v w:=by
 rcases hown.2 with ⟨rfl,rfl⟩|⟨g,cap,cur,rfl,_,_,hnc,_⟩
 ·simp[Builtin.append_,run_underlying ht,sizeOf,typeInfo,hi,Builtin.lenOf,Builtin.firstCells]
 ·simp[Builtin.append_,run_underlying ht,sizeOf,typeInfo,hi,Builtin.lenOf,Builtin.firstCells,hnc,storeCells]
theorem Yd {P:Program} {w:World} {ops:Array Oper} {rest:List Oper} {o:Oper} {a:Act} {Q:Exit->Act->World->Prop} (hgd:o.guard=none) (s x:Operand) (t:TypeId)
  (ho:o.op= .call {callee:= .builtin .append,args:= #[s,x],argTypes:= #[t,t]})
  (base:Nat) (e:TypeId) (i:TypeInfo) (z:Value) (size bytes:Nat) (ht:P.underlying t=some (.slice e)) (hi:P.info? e=some i) (hz:i.zero=some z)
  (hsize:i.size=size) (hby:i.bytes=bytes) (hzs:z.cells.size=size) (hsz:0<size)
  (v:Value) (n:Nat) (xs:List Value) (hs:a.eval s=v) (hown:w.ownsRow base e size v n xs)
  (ax:Option Addr) (m c:Nat) (news:List Value) (hx:a.eval x= .slice ax m c) (hl:news.length=m *size) (hsrc:0<m->∃ad,ax=some ad/\∀j u,news[j]? =some u->w.cell? (ad.add j)=some u) (h1:∀u∈news,u.oneCell'=true)
  (h63:n+m<=maxLen) (hbytes:(n+m) *bytes<=140737488355328) (hbase:base<=w.heap.size)
  (h:∀v' w',w'.ownsRow base e size v' (n+m) (xs++news)->w.grownBy w' v.ownBlock->(v'.ownBlock=v.ownBlock\/v'.ownBlock=some w.heap.size)->wpList P ops Q rest (a.put o.dst v') w'):wpList P ops Q (o::rest) a w:=by
 rcases Nat.eq_zero_or_pos m with e0|e0
 ·subst e0
  obtain rfl:news= []:=List.eq_nil_of_length_eq_zero (by simpa using hl)
  cases ax with
  |none=>
   refine wpList_plain hgd fun K hK=> ?_
   have b:=Xeg (P:=P) (w:=w) base t o.type e i size c ht hi v n xs hown
   unfold Oper.wp
   simp[execOp,ho,resolve,invoke,builtin,hs,hx,b,Result.andThen]
   exact hK _ _ (h v w (by simpa using hown) ⟨rfl,rfl,rfl,Nat.le_refl _,fun _ _ _=>rfl⟩ (Or.inl rfl))
  |some ad=>
   exact wpList_append_own_at w hgd s x t ho base e i z size bytes ht hi hz hsize hby hzs hsz v n xs hs hown ad 0 c [] hx hl (fun j u hj=>by simp at hj) h1 h63 hbytes hbase (fun v' w' h2 h3 _ h5=>h v' w' h2 h3 h5)
 ·obtain ⟨ad,rfl,d⟩:=hsrc e0
  exact wpList_append_own_at w hgd s x t ho base e i z size bytes ht hi hz hsize hby hzs hsz v n xs hs hown ad m c news hx hl d h1 h63 hbytes hbase (fun v' w' h2 h3 _ h5=>h v' w' h2 h3 h5)


def From (base:Nat) (w w':World):Prop:=w.heap.size<=w'.heap.size/\∀c,base<=c->c<w.heap.size->w'.heap[c]? =w.heap[c]?
theorem From.below {base:Nat} {a w w':World} (h:From base a w) (hb:Below w.heap.size w w'):From base a w':=
 ⟨Nat.le_trans h.1 hb.size,fun c h1 h2=>(hb.block c (by have:=h.1;omega)).trans (h.2 c h1 h2)⟩
theorem From.refl (base:Nat) (w:World):From base w w:=⟨Nat.le_refl _,fun _ _ _=>rfl⟩
theorem From.mono {base base':Nat} {w w':World} (h:From base w w') (hb:base<=base'):From base' w w':=⟨h.1,fun c h1 h2=>h.2 c (by omega) h2⟩
theorem Vd {w w':World} {base e s n:Nat} {v:Value} {xs:List Value} (h:w.ownsRow base e s v n xs) (hf:From base w w'):w'.ownsRow base e s v n xs:=by
 refine ⟨h.1, ?_⟩
 rcases h.2 with hn|⟨g,cap,cur,rfl,hg,hgg,rest⟩
 ·exact .inl hn
 ·exact .inr ⟨g,cap,cur,rfl,hg,(hf.2 g hg (h.lt g rfl).2).trans hgg,rest⟩


theorem Xtv (R:Int->Int->Prop) (cf:Int->Int->Int) (g N cap:Nat) (w0:World) (c1 c2:Value) (f:Nat->Int) (a m b:Nat) (w:World) (h:Asked R cf g N w0 c1 c2 f a m b w) (hm:a+1<m) (hb:b=m+1):
  Calls Tryz.prog 217 #[.slice (some ⟨g,0,none⟩) N cap, .int .i64 a, .int .i64 m, .int .i64 b, .func (.func 213) #[] #[c1,c2]] w fun e w'=>e= .returned (.tuple #[])/\∃f',w'.rowIs g 3 N (Yq f')/\Merged R f f' a b/\Sw g w0 w':=by
 have H:=Xa h
 have bd:=h.mb
 have be:=h.bN
 have bf:=h.NN
 clear h
 have ba:((m:Int)-(a:Int)==1)=false:=by rw[beq_eq_false_iff_ne];omega
 have T:((b:Int)-(m:Int)==1)=true:=by rw[beq_iff_eq];omega
 have bg:b<=m+1:=by omega
 have V:=Xa hb
 clear hb
 go_enter Tryz.func217,Tryz.ntmps217
 go_wp2_with fail
 go_loopw [14,15] (fun vi vj wr=>∃i j:Nat,vi= .int .i64 i/\vj= .int .i64 j/\a<=i/\i<=j/\j<=m/\Hid (∀p,a<=p->p<i->R (f p) (f m))/\Hid (∀p,j<=p->p<m->R (f m) (f p))/\wr.rowIs g 3 N (Yq f)/\Sw g w0 wr) (fun vi vj _=>(intOf vj).toNat-(intOf vi).toNat)
 case atStart=>exact ⟨a,m,rfl,rfl,Nat.le_refl _,by omega,Nat.le_refl _,fun q h1 h2=>absurd h1 (by omega),fun q h1 h2=>absurd h1 (by omega),H.out.row,H.out.sw⟩
 case round=>
  obtain ⟨i,j,rfl,rfl,t,bh,s,HL,HG,c,d⟩:=hrel
  by_cases hlt:i<j
  case pos=>
   obtain ⟨x,hx⟩:∃x:Nat,x=(i+j)/2:=⟨_,rfl⟩
   have x1:i<=x:=by omega
   have x2:x<j:=by omega
   have p0:((i:Int)+(j:Int))/2=(x:Int):=by omega
   have y:x<N:=by omega
   have B:m<N:=by omega
   have d1:=c.cell y
   have d2:=c.cell B
   unfold Yq at d1 d2
   obtain ⟨C,D⟩:=H.out.val x y
   obtain ⟨F,G⟩:=H.out.val m B
   have J:=Xa (H.out.cx x m (by omega) (by omega) (Nat.le_refl _) (by omega))
   have L:=Xa (H.out.cr (f x) (f m) J.out)
   have l:=Xa c
   have o:=Xa d
   clear hx c d
   by_cases hc:cf (f m) (f x)<0
   ·have X:Hid (∀p,x<=p->p<m->R (f m) (f p)):=fun p h1 h2=>(Gs H.out.tot H.out.r1 (p:=x) (q:=p) (by omega) h1 h2).2 (L.out.1 hc)
    go_wp2_with fail
    go_quiet ((go_at_call 213;exact Calls.quiet_of (H.out.cmp _ (o.out.drewN _) (f m) (f x) F G C D)))
    go_wp2_with fail
    go_roundw
    case rel=>exact ⟨i,x,rfl,rfl,t,x1,by omega,HL,X,l.out,o.out.drewN nq⟩
    case measure=>simp[intOf];omega
   ·have Y:Hid (∀p,a<=p->p<x+1->R (f p) (f m)):=fun p h1 h2=>(Gs H.out.tot H.out.r1 (p:=p) (q:=x) h1 (by omega) (by omega)).1 (Xcb H.out.tot J.out (fun hr=>hc (L.out.2 hr)))
    have bi:(!decide (cf (f m) (f x)<0))=true:=by simp;omega
    go_wp2_with fail
    go_quiet ((go_at_call 213;exact Calls.quiet_of (H.out.cmp _ (o.out.drewN _) (f m) (f x) F G C D)))
    go_wp2_with fail
    go_roundw
    case rel=>exact ⟨x+1,j,by go_num,rfl,by omega,by omega,s,Y,HG,l.out,o.out.drewN nq⟩
    case measure=>simp[intOf];omega
  case neg=>
  obtain rfl:i=j:=by omega
  have HM:Hid (Merged R f (rot i m b f) a b):=Xnz t s (by omega) H.out.r1 H.out.r2 (fun p q h1 h2 h3 h4=>by
    obtain rfl:q=m:=by omega
    exact HL.out p h1 h2) (fun p q h1 h2 h3 h4=>by
    obtain rfl:q=m:=by omega
    exact HG.out p h1 h2)
  obtain ⟨W0,rfl⟩:∃W0,W0=wr:=⟨_,rfl⟩
  have l:=Xa c
  have o:=Xa d
  clear c d hlt
  go_wp2_with fail
  go_loopw [17] (fun vk wr=>∃k:Nat,vk= .int .i64 k/\i<=k/\k<=m/\wr.rowIs g 3 N (Yq (rot k m (m+1) f))/\Sw g w0 wr) (fun vk _=>(intOf vk).toNat-i)
  case atStart=>exact ⟨m,rfl,s,Nat.le_refl _,l.out.congr fun p _=>by unfold Yq;rw[Xdo (Or.inl rfl) (Nat.le_refl _) (by omega)],o.out⟩
  case round=>
   obtain ⟨k,rfl,bj,bk,c,d⟩:=hrel
   by_cases hlt:i<k
   ·obtain ⟨z,Z⟩:∃z,k=z+1:=⟨k-1,by omega⟩
    have q1:=c.cell (i:=k) (by omega)
    have q2:=c.cell (i:=z) (by omega)
    have f1:=c.frozen k
    have f2:=c.frozen z
    unfold Yq at q1 q2
    have bl:k<N:=by omega
    have bm:z<N:=by omega
    have e1:(k:Int)-1=(z:Int):=by omega
    obtain ⟨u,P⟩:∃u,rot k m (m+1) f k=u:=⟨_,rfl⟩
    obtain ⟨v,S⟩:∃v,rot k m (m+1) f z=v:=⟨_,rfl⟩
    rw[P] at q1
    rw[S] at q2
    have bb:k≠z:=by omega
    have bc:z≠k:=by omega
    have M:Hid (((wr.setCell ⟨g,k,none⟩ (.int .i64 v)).setCell ⟨g,z,none⟩ (.int .i64 u)).drew.rowIs g 3 N (Yq (rot z m (m+1) f))):=by
     refine (Xca c k z v u).congr fun p _=> ?_
     unfold Yq
     rw[Z] at P S|-
     rw[<-Xoz (show z+1<=m by omega) f p,P,S]
    have HO:=Xa ((d.set k (.int .i64 v)).set z (.int .i64 u)).drew
    have HZ:=Xa Z
    clear c d P S Z
    go_wp2_with fail
    go_region
    all_goals
     go_wp2_with fail
     go_roundw
     case rel=>exact ⟨z,by go_num,by have:=HZ.out;omega,by have:=HZ.out;omega,M.out,HO.out⟩
     case measure=>have:=HZ.out;simp[intOf];omega
   ·obtain rfl:k=i:=by omega
    go_wp2_with fail
    refine ⟨rfl, .tuple #[],results_none rfl _ _ _,rfl,_,c, ?_,d⟩
    rw[<-V.out]
    exact HM.out


def Xgb (R:Int->Int->Prop) (cf:Int->Int->Int) (g N cap:Nat) (w0:World) (c1 c2:Value) (f:Nat->Int) (a m b:Nat) (w:World):Prop:=
 Calls Tryz.prog 217 #[.slice (some ⟨g,0,none⟩) N cap, .int .i64 a, .int .i64 m, .int .i64 b, .func (.func 213) #[] #[c1,c2]] w fun e w'=>e= .returned (.tuple #[])/\∃f',w'.rowIs g 3 N (Yq f')/\Merged R f f' a b/\Sw g w0 w'
theorem Xuu (R : Int -> Int -> Prop) (cf : Int -> Int -> Int) (g N cap : Nat) (w0 : World) (c1 c2 : Value) (f : Nat -> Int) (a m b : Nat) (w : World) (h : Asked R cf g N w0 c1 c2 f a m b w) (hm : a + 1 < m) (hb : m + 1 < b)
  (ih:∀f' a' m' b' w',b'-a'<b-a->Asked R cf g N w0 c1 c2 f' a' m' b' w'->Xgb R cf g N cap w0 c1 c2 f' a' m' b' w'):Xgb R cf g N cap w0 c1 c2 f a m b w:=by
 unfold Xgb
 have H:=Xa h
 have IH:=Xa ih
 have bx:=h.bN
 have M:=h.NN
 clear h ih
 have cg:((m:Int)-(a:Int)==1)=false:=by rw[beq_eq_false_iff_ne];omega
 have bz:((b:Int)-(m:Int)==1)=false:=by rw[beq_eq_false_iff_ne];omega
 obtain ⟨d,G⟩:∃d:Nat,d=(a+b)/2:=⟨_,rfl⟩
 have p0:((a:Int)+(b:Int))/2=(d:Int):=by omega
 have g1:a<d:=by omega
 have g2:d<b:=by omega
 have g3:d+d<=a+b:=by omega
 have Z:=Xa (X4m (show a<m by omega) (show m<b by omega) G)
 clear G
 obtain ⟨n,hn⟩:∃n,n=d+m:=⟨_,rfl⟩
 have en:(d:Int)+(m:Int)=(n:Int):=by omega
 obtain ⟨n1,ba⟩:∃n1,n=n1+1:=⟨n-1,by omega⟩
 have ch:(n:Int)-1=(n1:Int):=by omega
 have ci:n<=2199023255552:=by omega
 have HN:=Xa hn
 have b0:=Xa ba
 clear hn ba
 obtain ⟨J,L,C,bb⟩:∃J L,Hid (MidS a m b J L n)/\(((d:Int)<(m:Int)/\(n:Int)-(b:Int)=(J:Int)/\Hid (L=d))\/(¬(d:Int)<(m:Int)/\Hid (J=a/\L=m))):=by
  by_cases hmm:d<m
  ·refine ⟨d+m-b,d, ?_, .inl ⟨by omega,by have:=HN.out;omega,rfl⟩⟩
   rw[Hid,HN.out];exact Z.out.1 hmm
  ·refine ⟨a,m, ?_, .inr ⟨by omega,rfl,rfl⟩⟩
   rw[Hid,HN.out];exact Z.out.2 (by omega)
 rcases bb with ⟨hmm,elo,EW⟩|⟨hmm,EW⟩
 all_goals
  have u1:=C.out.la
  have u2:=C.out.hm
  have u3:=C.out.le
  have u4:=C.out.nm.1
  have u5:=C.out.nm.2.1
  have u6:=C.out.nm.2.2
  go_enter Tryz.func217,Tryz.ntmps217
  go_wp2_with fail
  go_loopw [20,21] (fun vi vj wr=>∃i j:Nat,vi= .int .i64 i/\vj= .int .i64 j/\J<=i/\i<=j/\j<=L/\Hid (∀c,J<=c->c<i->R (f c) (f (n-1-c)))/\Hid (∀c,j<=c->c<L->R (f (n-1-c)) (f c))/\wr.rowIs g 3 N (Yq f)/\Sw g w0 wr) (fun vi vj _=>(intOf vj).toNat-(intOf vi).toNat)
  case atStart=>exact ⟨J,L,by first|go_num|rw[EW.out.1],by first|rw[EW.out]|rw[EW.out.2],Nat.le_refl _,u3,Nat.le_refl _,fun q h1 t=>absurd h1 (by omega),fun q h1 t=>absurd h1 (by omega),H.out.row,H.out.sw⟩
  case round =>
   obtain ⟨i,j,rfl,rfl,bc,cj,bd,HL,HG,l,D⟩:=hrel
   by_cases hlt:i<j
   case pos=>
    obtain ⟨x,hx⟩:∃x:Nat,x=(i+j)/2:=⟨_,rfl⟩
    have x1:i<=x:=by omega
    have x2:x<j:=by omega
    have px:((i:Int)+(j:Int))/2=(x:Int):=by omega
    have b1:=C.out.up x (by omega) (by omega)
    obtain ⟨y,hy⟩:∃y,y=n-1-x:=⟨_,rfl⟩
    have ey:(n1:Int)-(x:Int)=(y:Int):=by have:=b0.out;omega
    have be:x<N:=by omega
    have bf:y<N:=by omega
    have d1:=l.cell bf
    have d2:=l.cell be
    unfold Yq at d1 d2
    obtain ⟨bg,bh⟩:=H.out.val y bf
    obtain ⟨bi,bj⟩:=H.out.val x be
    have bk:=Xa (H.out.cx x y (by omega) (by omega) (by omega) (by omega))
    have bl:=Xa (H.out.cr (f x) (f y) bk.out)
    have HY:=Xa hy
    have o:=Xa l
    have z:=Xa D
    clear hx l D hy b1
    by_cases hc:cf (f y) (f x)<0
    ·have b2:Hid (∀c,x<=c->c<L->R (f (n-1-c)) (f c)):=Xxq H.out.tot C.out H.out.r1 H.out.r2 (by omega) (by omega) (by rw[<-HY.out];exact bl.out.1 hc)
     go_wp2_with fail
     go_quiet ((go_at_call 213;exact Calls.quiet_of (H.out.cmp _ (z.out.drewN _) (f y) (f x) bg bh bi bj)))
     go_wp2_with fail
     go_roundw
     case rel=>exact ⟨i,x,rfl,rfl,bc,x1,by omega,HL,b2,o.out,z.out.drewN nq⟩
     case measure=>simp[intOf];omega
    ·have b3:Hid (∀c,J<=c->c<x+1->R (f c) (f (n-1-c))):=fun c h1 t=>X1c H.out.tot C.out H.out.r1 H.out.r2 (c:=x) (by omega) (by omega) (by rw[<-HY.out];exact Xcb H.out.tot bk.out (fun hr=>hc (bl.out.2 hr))) c h1 (by omega)
     have ck:(!decide (cf (f y) (f x)<0))=true:=by simp;omega
     go_wp2_with fail
     go_quiet ((go_at_call 213;exact Calls.quiet_of (H.out.cmp _ (z.out.drewN _) (f y) (f x) bg bh bi bj)))
     go_wp2_with fail
     go_roundw
     case rel=>exact ⟨x+1,j,by go_num,rfl,by omega,by omega,bd,b3,HG,o.out,z.out.drewN nq⟩
     case measure=>simp[intOf];omega
   case neg=>
   obtain rfl:i=j:=by omega
   have s:=Xa (Xum H.out.tot C.out H.out.r1 H.out.r2 bc bd HL.out HG.out)
   obtain ⟨e,he⟩:∃e,e=n-i:=⟨_,rfl⟩
   rw[<-he] at s
   have ee:(n:Int)-(i:Int)=(e:Int):=by omega
   have k1:=s.out.ale
   have k2:=s.out.sm
   have k3:=s.out.me
   have k4:=s.out.eb
   have F:Hid (i+(e-m)=d):=by have:=HN.out;rw[Hid];omega
   have o:=Xa l
   have z:=Xa D
   clear l D hlt he u1 u2 u3 u4 u5 u6
   have b4:Hid (∀(W:World),W.rowIs g 3 N (Yq (rot i m e f))->Sw g w0 W->(a<i/\i<d->Asked R cf g N w0 c1 c2 (rot i m e f) a i d W)):=fun W hr hs hc=>
    ⟨H.out.tot,H.out.cmp,H.out.cr,hr,hs,Xn8 H.out.val k2 k3 (by omega),hc.1,hc.2,by omega,M,s.out.rise1 H.out.r1,by have:=s.out.rise2 H.out.r2;rw[F.out] at this;exact this,by have:=s.out.cross1 H.out.cx;rw[F.out] at this;exact this⟩
   have bm:Hid (¬(a<i/\i<d)->Merged R (rot i m e f) (rot i m e f) a d):=fun hc=>by
    refine Xci ?_
    by_cases c1:a<i
    ·have:i=d:=by have:=F.out;omega
     rw[<-this];exact s.out.rise1 H.out.r1
    ·have:i=a:=by omega
     have t:=s.out.rise2 H.out.r2
     rw[F.out,this] at t
     rw[this];exact t
   have b5:Hid (∀(W:World) (f2:Nat->Int),Merged R (rot i m e f) f2 a d->W.rowIs g 3 N (Yq f2)->Sw g w0 W->(d<e/\e<b->Asked R cf g N w0 c1 c2 f2 d e b W)):=fun W f2 hm hr hs hc=>by
    have Y:=s.out.rise3 H.out.r1
    have r4:=s.out.rise4 H.out.r2
    have x2:=s.out.cross2 H.out.cx
    rw[F.out] at Y x2
    exact ⟨H.out.tot,H.out.cmp,H.out.cr,hr,hs,hm.vals (Xn8 H.out.val k2 k3 (by omega)) (by omega),hc.1,hc.2,bx,M,
     fun p q h1 t h3=>by rw[hm.out p (by omega),hm.out q (by omega)];exact Y p q h1 t h3,
     fun p q h1 t h3=>by rw[hm.out p (by omega),hm.out q (by omega)];exact r4 p q h1 t h3,
     fun p q h1 t h3 h4=>by rw[hm.out p (by omega),hm.out q (by omega)];exact x2 p q h1 t h3 h4⟩
   have bn:Hid (∀f2:Nat->Int,Merged R (rot i m e f) f2 a d->¬(d<e/\e<b)->Merged R f2 f2 d b):=fun f2 hm hc=>by
    have Y:=s.out.rise3 H.out.r1
    have r4:=s.out.rise4 H.out.r2
    rw[F.out] at Y
    have b6:d<=e:=by have:=F.out;omega
    refine Xci fun p q h1 t h3=> ?_
    rw[hm.out p (by omega),hm.out q (by omega)]
    by_cases c1:d<e
    ·have:e=b:=by omega
     rw[this] at Y|-
     exact Y p q h1 t h3
    ·have:e=d:=by omega
     rw[this] at r4|-
     exact r4 p q h1 t h3
   have bo:Hid (∀f2 f3:Nat->Int,Merged R (rot i m e f) f2 a d->Merged R f2 f3 d b->Merged R f f3 a b):=fun f2 f3 h1 t=>by
    refine s.out.whole H.out.r1 H.out.r2 (f2:=f2) ?_ ?_
    ·rw[F.out];exact h1
    ·rw[F.out];exact t
   rcases (show (i<m/\m<e)\/(¬(i<m/\m<e)) by omega) with hA|hA
   all_goals
    first
    |have bp:(i:Int)<(m:Int):=by omega
     have b7:(m:Int)<(e:Int):=by omega
     go_wp2_with fail
     refine (Xud g N cap f i m e _ wr o.out hA.1 hA.2 (by omega) M).mono ?_
     rintro e7 w7 ⟨rfl,bq,br⟩
     have P:=Xa bq
     have S:=Xa (z.out.trans br)
     clear bq br
    |have P:Hid (wr.rowIs g 3 N (Yq (rot i m e f))):=o.out.congr fun p _=>by unfold Yq;rw[Xdo (by omega) k2 k3]
     have S:=z
     rcases (show (i:Int)<(m:Int)/\¬(m:Int)<(e:Int)\/¬(i:Int)<(m:Int) by omega) with ⟨bp,b7⟩|bp
    all_goals
     rcases Classical.em (a<i/\i<d) with hB|hB
     all_goals
      first
      |have b8:=Xa (b4.out _ P.out S.out hB)
       have bs:(a:Int)<(i:Int):=by omega
       have b9:(i:Int)<(d:Int):=by omega
       go_wp2_with fail
       refine (IH.out _ a i d _ (by omega) b8.out).mono ?_
       rintro e8 w8 ⟨rfl,f8,bt,bu,bv⟩
       have T:=Xa bt
       have V:=Xa bv
       have B:=Xa bu
       clear bt bv bu
      |have B:=Xa (bm.out hB)
       have T:=P
       have V:=S
       rcases (show (a:Int)<(i:Int)/\¬(i:Int)<(d:Int)\/¬(a:Int)<(i:Int) by omega) with ⟨bs,b9⟩|bs
      all_goals
       rcases Classical.em (d<e/\e<b) with hC|hC
       all_goals
        first
        |have ca:=Xa (b5.out _ _ B.out T.out V.out hC)
         have bw:(d:Int)<(e:Int):=by omega
         have cb:(e:Int)<(b:Int):=by omega
         go_wp2_with fail
         all_goals
                    refine (IH.out _ d e b _ (by omega) ca.out).mono ?_
                    rintro e9 w9 ⟨rfl,f9,cc,cd,ce⟩
                    have X:=Xa (bo.out _ _ B.out cd)
                    go_wp2_with fail
                    exact ⟨rfl, .tuple #[],results_none rfl _ _ _,rfl,f9,cc,X.out,ce⟩
        |have X:=Xa (bo.out _ _ B.out (bn.out _ B.out hC))
         rcases (show (d:Int)<(e:Int)/\¬(e:Int)<(b:Int)\/¬(d:Int)<(e:Int) by omega) with ⟨bw,cb⟩|bw
         all_goals
                    go_wp2_with fail
                    all_goals exact ⟨rfl, .tuple #[],results_none rfl _ _ _,rfl,_,T.out,X.out,V.out⟩


structure AskedI (R:Int->Int->Prop) (cf:Int->Int->Int) (g N:Nat) (w0:World) (c1 c2:Value) (f:Nat->Int) (a b:Nat) (w:World):Prop where
 tot:Tot R
 cmp:Xii g N w0 c1 c2 cf
 cr:∀x y:Int,x<y->(cf y x<0↔R y x)
 row:w.rowIs g 3 N (Yq f)
 sw:Sw g w0 w
 val:U4 f N
 ab:a<=b
 bN:b<=N
 NN:N<=1099511627776
 up:∀p q,a<=p->p<q->q<b->f p<f q
theorem Xn9 {R:Int->Int->Prop} (hR:Tot R) {f fk:Nat->Int} {a i j:Nat} (h1:a<=j) (h2:j<=i) (hm:Merged R f fk a i) (hfi:∀p,i<=p->fk p=f p)
  (hbig:∀p,j<=p->p<i->R (f i) (fk p)) (hlow:a<j->R (fk (j-1)) (f i)):Merged R f (rot j i (i+1) fk) a (i+1):=by
 have l:∀p,a<=p->p<j->R (fk p) (f i):=fun p hp hpj=>by
  have:=hlow (by omega)
  by_cases e:p=j-1
  ·rw[e];exact this
  ·exact hR.tr _ _ _ (hm.ris p (j-1) hp (by omega) (by omega)) this
 have b:Merged R fk (rot j i (i+1) fk) a (i+1):=Xnz h1 h2 (by omega) hm.ris (fun p q h1 h2 h3=>by omega) (fun p q h3 h4 h5 h6=>by
   obtain rfl:q=i:=by omega
   rw[hfi q (Nat.le_refl _)];exact l p h3 h4) (fun p q h3 h4 h5 h6=>by
   obtain rfl:q=i:=by omega
   rw[hfi q (Nat.le_refl _)];exact hbig p h3 h4)
 refine ⟨fun p hp=> ?_,fun p h3 h4=> ?_,b.ris⟩
 ·rw[b.out p hp]
  rcases hp with c|c
  ·exact hm.out p (Or.inl c)
  ·exact hfi p (by omega)
 ·obtain ⟨q,d,o,g⟩:=b.inn p h3 h4
  by_cases c:q<i
  ·obtain ⟨r,s,y,t⟩:=hm.inn q d c
   exact ⟨r,s,by omega,by rw[g,t]⟩
  ·exact ⟨q,d,o,by rw[g,hfi q (by omega)]⟩
theorem Xeb (R:Int->Int->Prop) (cf:Int->Int->Int) (g N cap:Nat) (w0:World) (c1 c2:Value) (f:Nat->Int) (a b:Nat) (w:World) (h:AskedI R cf g N w0 c1 c2 f a b w):
  Calls Tryz.prog 216 #[.slice (some ⟨g,0,none⟩) N cap, .int .i64 a, .int .i64 b, .func (.func 213) #[] #[c1,c2]] w fun e w'=>e= .returned (.tuple #[])/\∃f',w'.rowIs g 3 N (Yq f')/\Merged R f f' a b/\Sw g w0 w':=by
 have H:=Xa h
 have br:=h.ab
 have bs:=h.bN
 have bt:=h.NN
 clear h
 go_enter Tryz.func216,Tryz.ntmps216
 go_wp2_with fail
 go_loopw [8] (fun vi wr=>∃(i:Nat) (l:Nat->Int),vi= .int .i64 i/\a<i/\i<=b+1/\wr.rowIs g 3 N (Yq l)/\Hid (Merged R f l a (min i b))/\Hid (∀p,min i b<=p->l p=f p)/\Sw g w0 wr) (fun vi _=>b+1-(intOf vi).toNat)
 case atStart=>
  refine ⟨a+1,f,by go_num,by omega,by omega,H.out.row,Xci fun p q h1 h2 h3=> ?_,fun p _=>rfl,H.out.sw⟩
  exfalso;omega
 case round=>
  obtain ⟨i,l,rfl,bu,bv,c,B,G,o⟩:=hrel
  by_cases hlt:i<b
  case neg=>
   have s:min i b=b:=by omega
   rw[s] at B
   go_wp2_with fail
   exact ⟨rfl, .tuple #[],results_none rfl _ _ _,rfl,l,c,B.out,o⟩
  case pos=>
  have s:min i b=i:=by omega
  rw[s] at B G
  clear s
  obtain ⟨W0,rfl⟩:∃W0,W0=wr:=⟨_,rfl⟩
  have J:=Xa c
  have be:=Xa o
  have HV:=Xa (B.out.vals H.out.val (by omega))
  clear c o
  go_wp2_with fail
  go_loopw [9] (fun vj wr=>∃j:Nat,vj= .int .i64 j/\a<=j/\j<=i/\wr.rowIs g 3 N (Yq (rot j i (i+1) l))/\Hid (∀p,j<=p->p<i->R (f i) (l p))/\Sw g w0 wr) (fun vj _=>(intOf vj).toNat)
  case atStart=>exact ⟨i,rfl,by omega,Nat.le_refl _,J.out.congr fun p _=>by unfold Yq;rw[Xdo (Or.inl rfl) (Nat.le_refl _) (by omega)],fun p h1 h2=>absurd h1 (by omega),be.out⟩
  case round=>
   obtain ⟨j,rfl,bf,t,c,HB,o⟩:=hrel
   by_cases hja:a<j
   case neg=>
    obtain rfl:j=a:=by omega
    have hd:decide ((j:Int)<(j:Int))=false:=by simp
    have C:=Xa (Xn9 H.out.tot (Nat.le_refl _) t B.out G.out HB.out (fun h=>absurd h (by omega)))
    have D:Hid (∀p,i+1<=p->rot j i (i+1) l p=f p):=fun p hp=>by rw[Qb (by omega) t (by omega)];exact G.out p (by omega)
    have bw:¬(j:Int)<(j:Int):=by omega
    go_wp2_with fail
    go_quiet (fail)
    go_wp2_with fail
    go_roundw
    case rel=>
     refine ⟨i+1,rot j i (i+1) l,by go_num,by omega,by omega,c, ?_, ?_,o.drewN nq⟩
     ·rw[show min (i+1) b=i+1 by omega];exact C
     ·rw[show min (i+1) b=i+1 by omega];exact D
    case measure=>simp[intOf];omega
   case pos=>
   obtain ⟨z,L⟩:∃z,j=z+1:=⟨j-1,by omega⟩
   have e1:(j:Int)-1=(z:Int):=by omega
   have bg:j<N:=by omega
   have M:z<N:=by omega
   have q1:=c.cell (i:=j) bg
   have q2:=c.cell (i:=z) M
   have f1:=c.frozen j
   have f2:=c.frozen z
   unfold Yq at q1 q2
   have P:Hid (rot j i (i+1) l j=f i):=by rw[Hid,U2 (Nat.le_refl _) (by omega),show i+(j-j)=i by omega];exact G.out i (Nat.le_refl _)
   have S:Hid (rot j i (i+1) l z=l z):=by rw[Hid,Qb (by omega) t (by omega)]
   rw[P.out] at q1
   rw[S.out] at q2
   obtain ⟨T,V⟩:=H.out.val i (by omega)
   obtain ⟨X,Y⟩:=HV.out z M
   have Z:Hid (l z<f i):=by
    obtain ⟨r,r1,r2,r3⟩:=B.out.inn z (by omega) (by omega)
    rw[Hid,r3]
    exact H.out.up r i r1 (by omega) hlt
   have ba:=Xa (H.out.cr (l z) (f i) Z.out)
   have bn:(a:Int)<(j:Int):=by omega
   have bo:decide ((a:Int)<(j:Int))=true:=by simp;omega
   by_cases hc:cf (f i) (l z)<0
   case pos=>
    have bp:j≠z:=by omega
    have bq:z≠j:=by omega
    have bb:Hid (∀W:World,W.rowIs g 3 N (Yq (rot j i (i+1) l))->((W.setCell ⟨g,j,none⟩ (.int .i64 (l z))).setCell ⟨g,z,none⟩ (.int .i64 (f i))).drew.rowIs g 3 N (Yq (rot z i (i+1) l))):=fun W hW=>by
     refine (Xca hW j z (l z) (f i)).congr fun p _=> ?_
     unfold Yq
     have d:=Xoz (show z+1<=i by omega) l p
     rw[<-L,P.out,S.out] at d
     rw[<-d]
    have bh:Hid (∀p,z<=p->p<i->R (f i) (l p)):=fun p h1 h2=>by
     by_cases e:p=z
     ·rw[e];exact ba.out.1 hc
     ·exact HB.out p (by omega) h2
    have HZ:=Xa L
    have F:=Xa c
    have y:=Xa o
    clear L c o
    go_wp2_with fail
    go_quiet ((go_at_call 213;exact Calls.quiet_of (H.out.cmp _ (y.out.drewN _) (f i) (l z) T V X Y)))
    have bi:(wr.drewN nq).cell? ⟨g,j,none⟩=some (.int .i64 (f i)):=q1
    have bj:(wr.drewN nq).cell? ⟨g,z,none⟩=some (.int .i64 (l z)):=q2
    have bk:(wr.drewN nq).frozen? ⟨g,j,none⟩=false:=f1
    have bl:(wr.drewN nq).frozen? ⟨g,z,none⟩=false:=f2
    have bc:Hid ((wr.drewN nq).rowIs g 3 N (Yq (rot j i (i+1) l))):=F.out
    have bd:=Xa (y.out.drewN nq)
    generalize wr.drewN nq=W1 at bi bj bk bl bc bd|-
    clear q1 q2 f1 f2
    have bm:=Xa (bb.out W1 bc.out)
    have HO:=Xa ((bd.out.set j (.int .i64 (l z))).set z (.int .i64 (f i))).drew
    go_wp2_with fail
    go_region
    all_goals
     go_wp2_with fail
     go_roundw
     case rel=>exact ⟨z,by go_num,by have:=HZ.out;omega,by have:=HZ.out;omega,bm.out,bh,HO.out⟩
     case measure=>have:=HZ.out;simp[intOf];omega
   case neg=>
    have C:Hid (Merged R f (rot j i (i+1) l) a (i+1)):=Xn9 H.out.tot bf t B.out G.out HB.out (fun _=>by
     rw[show j-1=z by omega]
     exact Xcb H.out.tot Z.out (fun hr=>hc (ba.out.2 hr)))
    have D:Hid (∀p,i+1<=p->rot j i (i+1) l p=f p):=fun p hp=>by rw[Qb (by omega) t (by omega)];exact G.out p (by omega)
    have bx:decide (cf (f i) (l z)<0)=false:=by simp;omega
    have F:=Xa c
    have y:=Xa o
    have HZ:=Xa L
    clear L c o
    go_wp2_with fail
    go_quiet ((go_at_call 213;exact Calls.quiet_of (H.out.cmp _ (y.out.drewN _) (f i) (l z) T V X Y)))
    go_wp2_with fail
    go_roundw
    case rel=>
     refine ⟨i+1,rot j i (i+1) l,by go_num,by omega,by omega,F.out, ?_, ?_,y.out.drewN nq⟩
     ·rw[show min (i+1) b=i+1 by omega];exact C
     ·rw[show min (i+1) b=i+1 by omega];exact D
    case measure=>simp[intOf];omega


theorem Xfl (R:Int->Int->Prop) (cf:Int->Int->Int) (g N cap:Nat) (w0:World) (c1 c2:Value):∀(k:Nat) (f:Nat->Int) (a m b:Nat) (w:World),b-a<=k->Asked R cf g N w0 c1 c2 f a m b w->Xgb R cf g N cap w0 c1 c2 f a m b w:=by
 intro k
 induction k with
 |zero=>intro f a m b w c h;have:=h.am;have:=h.mb;omega
 |succ k ih=>
  intro f a m b w c h
  have d:=h.am
  have j:=h.mb
  by_cases e1:m=a+1
  ·exact Xt5 R cf g N cap w0 c1 c2 f a m b w h e1
  ·by_cases e2:b=m+1
   ·exact Xtv R cf g N cap w0 c1 c2 f a m b w h (by omega) e2
   ·exact Xuu R cf g N cap w0 c1 c2 f a m b w h (by omega) (by omega) (fun f' a' m' b' w' hlt ha=>ih f' a' m' b' w' (by omega) ha)
structure AskedS (R:Int->Int->Prop) (cf:Int->Int->Int) (g N:Nat) (w0:World) (c1 c2:Value) (f:Nat->Int) (w:World):Prop where
 tot:Tot R
 cmp:Xii g N w0 c1 c2 cf
 cr:∀x y:Int,x<y->(cf y x<0↔R y x)
 row:w.rowIs g 3 N (Yq f)
 sw:Sw g w0 w
 val:U4 f N
 NN:N<=1048576
 up:∀p q,p<q->q<N->f p<f q
theorem Xli {R:Int->Int->Prop} {f fk fk':Nat->Int} {a b:Nat} (he:∀p,a<=p->fk p=f p) (hm:Merged R fk fk' a b):Blk R f fk' a b:=by
 refine ⟨fun p h1 h2=> ?_,hm.ris⟩
 obtain ⟨q,c,d,g⟩:=hm.inn p h1 h2
 exact ⟨q,c,d,by rw[g,he q c]⟩
theorem Xkb {R:Int->Int->Prop} {f fk:Nat->Int} {N:Nat} (hv:U4 f N) (h:∀p,p<N->∃q,q<N/\fk p=f q):U4 fk N:=fun p hp=>by
 obtain ⟨q,b,c⟩:=h p hp
 rw[c];exact hv q b
theorem Xu7 (R:Int->Int->Prop) (cf:Int->Int->Int) (g N cap:Nat) (w0:World) (c1 c2:Value) (f:Nat->Int) (w:World) (h:AskedS R cf g N w0 c1 c2 f w):
  Calls Tryz.prog 215 #[.slice (some ⟨g,0,none⟩) N cap, .int .i64 N, .func (.func 213) #[] #[c1,c2]] w fun e w'=>e= .returned (.tuple #[])/\∃f',w'.rowIs g 3 N (Yq f')/\Blk R f f' 0 N/\Sw g w0 w':=by
 have H:=Xa h
 have b1:=h.NN
 clear h
 go_enter Tryz.func215,Tryz.ntmps215
 go_wp2_with fail
 go_loopw [7,8] (fun va vb wr=>∃(a b:Nat) (j:Nat->Int),va= .int .i64 a/\vb= .int .i64 b/\Hid (b=a+20)/\a<=b/\b<=a+20/\Hid (20∣a)/\a<=N/\wr.rowIs g 3 N (Yq j)/\Hid (Upto R f j 20 a)/\Hid (∀p,a<=p->j p=f p)/\Hid (∀p,p<N->∃q,q<N/\j p=f q)/\Sw g w0 wr) (fun va _ _=>N-(intOf va).toNat)
 case atStart=>exact ⟨0,20,f,rfl,rfl,rfl,by omega,by omega,Nat.dvd_zero _,Nat.zero_le _,H.out.row,fun x _ h=>absurd h (by omega),fun p _=>rfl,fun p hp=>⟨p,hp,rfl⟩,H.out.sw⟩
 case round =>
  obtain ⟨a,b,j,rfl,rfl,z,bm,bn,G,L,l,HU,Z,C,B⟩:=hrel
  have d:=Xa l
  have y:=Xa B
  clear l B
  by_cases hle:b<=N
  case pos=>
   have HA:Hid (AskedI R cf g N w0 c1 c2 j a b wr):=⟨H.out.tot,H.out.cmp,H.out.cr,d.out,y.out,Xkb (R:=R) H.out.val C.out,by omega,hle,by omega,fun p q J h2 h3=>by rw[Z.out p J,Z.out q (by omega)];exact H.out.up p q h2 (by omega)⟩
   go_wp2_with fail
   refine (Xeb R cf g N cap w0 c1 c2 j a b wr HA.out).mono ?_
   rintro e w1 ⟨rfl,f1,M,o,P⟩
   have bc:Hid (Upto R f f1 20 b):=by
    rw[Hid,z.out]
    exact HU.out.snoc G.out (by have:=Xli Z.out o;rw[z.out] at this;exact this) (fun p hp=>o.out p (Or.inl hp))
   have bu:Hid (∀p,b<=p->f1 p=f p):=fun p hp=>by rw[o.out p (Or.inr hp)];exact Z.out p (by omega)
   have S:Hid (∀p,p<N->∃q,q<N/\f1 p=f q):=fun p hp=>by
    by_cases c:a<=p/\p<b
    ·obtain ⟨q,q1,q2,q3⟩:=o.inn p c.1 c.2
     exact ⟨q,by omega,by rw[q3,Z.out q q1]⟩
    ·rw[o.out p (by omega)];exact C.out p hp
   have bd:Hid (20∣b):=by rw[Hid,z.out];exact Nat.dvd_add G.out (Nat.dvd_refl _)
   have be:=Xa M
   have bf:=Xa P
   clear M o P
   go_wp2_with fail
   go_roundw
   case rel=>exact ⟨b,b+20,f1,rfl,by go_num,rfl,by omega,by omega,bd,hle,be.out,bc,bu,S,bf.out⟩
   case measure=>have:=z.out;simp[intOf];omega
  case neg=>
  have HA:Hid (AskedI R cf g N w0 c1 c2 j a N wr):=⟨H.out.tot,H.out.cmp,H.out.cr,d.out,y.out,Xkb (R:=R) H.out.val C.out,L,Nat.le_refl _,by omega,fun p q J h2 h3=>by rw[Z.out p J,Z.out q (by omega)];exact H.out.up p q h2 h3⟩
  have bb:¬(b:Int)<=(N:Int):=by omega
  go_wp2_with fail
  refine (Xeb R cf g N cap w0 c1 c2 j a N wr HA.out).mono ?_
  rintro e w1 ⟨rfl,f1,M,o,P⟩
  have bv:Hid (Xd0 R f f1 20 0 N):=Xhs (fun x hx hlt=>(HU.out x hx hlt).kept (fun p J h2=>o.out p (Or.inl (by have:=Xd1 hx G.out hlt;omega)))) G.out L (by have:=z.out;omega) (fun _=>Xli Z.out o)
  have bw:Hid (∀p,p<N->∃q,q<N/\f1 p=f q):=fun p hp=>by
   by_cases c:a<=p/\p<N
   ·obtain ⟨q,q1,q2,q3⟩:=o.inn p c.1 c.2
    exact ⟨q,by omega,by rw[q3,Z.out q q1]⟩
   ·rw[o.out p (by omega)];exact C.out p hp
  have be:=Xa M
  have bf:=Xa P
  clear M o P d y HU Z C G HA hle bb
  obtain ⟨W0,rfl⟩:∃W0,W0=wr:=⟨_,rfl⟩
  go_wp2_with fail
  go_loopw [6,7,8,9] (fun vs _ _ _ wr=>∃(s:Nat) (j:Nat->Int),vs= .int .i64 s/\20<=s/\s<=2 *N+20/\wr.rowIs g 3 N (Yq j)/\Hid (Xd0 R f j s 0 N)/\Hid (∀p,p<N->∃q,q<N/\j p=f q)/\Sw g w0 wr) (fun vs _ _ _ _=>N-(intOf vs).toNat)
  case atStart=>exact ⟨20,f1,rfl,Nat.le_refl _,by omega,be.out,bv,bw,bf.out⟩
  case round =>
   obtain ⟨s,j,rfl,b0,b2,l,HF,C,B⟩:=hrel
   have d:=Xa l
   have y:=Xa B
   clear l B
   by_cases hlt:s<N
   case neg=>
    have HB:Hid (Blk R f j 0 N):=by
     by_cases c:0<N
     ·have:=HF.out 0 (Nat.dvd_zero _) (Nat.le_refl _) c
      rw[show min (0+s) N=N by omega] at this
      exact this
     ·exact ⟨fun p J h2=>by omega,fun p q J h2 h3=>by omega⟩
    go_wp2_with fail
    exact ⟨rfl, .tuple #[],results_none rfl _ _ _,rfl,j,d.out,HB.out,y.out⟩
   case pos=>
   obtain ⟨W1,rfl⟩:∃W1,W1=wr:=⟨_,rfl⟩
   obtain ⟨D,hD⟩:∃D,D=2 *s:=⟨_,rfl⟩
   have eD:2 *(s:Int)=(D:Int):=by omega
   have b3:(s:Int) *2=(D:Int):=by omega
   have b4:s<D:=by omega
   have b5:D<=4 *N:=by omega
   have ba:=Xa hD
   clear hD
   go_wp2_with fail
   go_loopw [7,8] (fun va vb wr=>∃(a b:Nat) (j:Nat->Int),va= .int .i64 a/\vb= .int .i64 b/\Hid (b=a+D)/\a<=b/\b<=a+D/\Hid (D∣a)/\a<=N/\wr.rowIs g 3 N (Yq j)/\Hid (Upto R f j D a)/\Hid (Xd0 R f j s a N)/\Hid (∀p,p<N->∃q,q<N/\j p=f q)/\Sw g w0 wr) (fun va _ _=>N-(intOf va).toNat)
   case atStart=>exact ⟨0,D,j,rfl,by go_num,by rw[Hid];omega,by omega,by omega,Nat.dvd_zero _,Nat.zero_le _,d.out,fun x _ h=>absurd h (by omega),HF,C,y.out⟩
   case round=>
    clear d y HF C
    obtain ⟨a,b,j,rfl,rfl,F,bm,bn,G,L,l,HU,HF,C,B⟩:=hrel
    have d:=Xa l
    have y:=Xa B
    clear l B
    obtain ⟨m,hm⟩:∃m,m=a+s:=⟨_,rfl⟩
    have em:(a:Int)+(s:Int)=(m:Int):=by omega
    have bo:a<m:=by omega
    have bg:=Xa hm
    have bh:Hid (s∣a):=Nat.dvd_trans ⟨2,by rw[ba.out];omega⟩ G.out
    have bx:Hid (s∣m):=by rw[Hid,bg.out];exact Nat.dvd_add bh.out (Nat.dvd_refl _)
    have bp:m+s=b:=by have:=F.out;have:=ba.out;omega
    have bz:=Xa bp
    have bq:m<b:=by omega
    clear hm bp
    have br:Hid (a<N->m<=N->Blk R f j a m):=fun J h2=>by
     have:=HF.out a bh.out (Nat.le_refl _) J
     rw[show min (a+s) N=m by have:=bg.out;omega] at this
     exact this
    have bs:Hid (m<N->Blk R f j m (min b N)):=fun J=>by
     have:=HF.out m bx.out (by omega) J
     rw[bz.out] at this
     exact this
    have HV:=Xa (Xkb (R:=R) H.out.val C.out)
    by_cases hle:b<=N
    case pos=>
     have k1:=br.out (by omega) (by omega)
     have T:=bs.out (by omega)
     rw[show min b N=b by omega] at T
     have HA:Hid (Asked R cf g N w0 c1 c2 j a m b wr):=⟨H.out.tot,H.out.cmp,H.out.cr,d.out,y.out,HV.out,bo,bq,hle,by omega,k1.2,T.2,Xlm H.out.up k1 T hle⟩
     have bi:=Xa k1
     have bj:=Xa T
     clear k1 T
     go_wp2_with fail
     refine (Xfl R cf g N cap w0 c1 c2 (b-a) j a m b wr (Nat.le_refl _) HA.out).mono ?_
     rintro e w2 ⟨rfl,f2,V,t,X⟩
     have bc:Hid (Upto R f f2 D b):=by
      have hb:=Xi3 bi.out bj.out t (by omega) (by omega)
      rw[F.out] at hb
      rw[Hid,F.out]
      exact HU.out.snoc G.out hb (fun p hp=>t.out p (Or.inl hp))
     have Y:Hid (Xd0 R f f2 s b N):=by
      intro x hx J h2
      exact (HF.out x hx (by omega) h2).kept (fun p h3 h4=>t.out p (Or.inr (by omega)))
     have S:Hid (∀p,p<N->∃q,q<N/\f2 p=f q):=fun p hp=>by
      by_cases c:a<=p/\p<b
      ·obtain ⟨q,q1,q2,q3⟩:=t.inn p c.1 c.2
       rw[q3];exact C.out q (by omega)
      ·rw[t.out p (by omega)];exact C.out p hp
     have bd:Hid (D∣b):=by rw[Hid,F.out];exact Nat.dvd_add G.out (Nat.dvd_refl _)
     have bk:=Xa V
     have bl:=Xa X
     clear V t X
     go_wp2_with fail
     go_roundw
     case rel=>exact ⟨b,b+D,f2,rfl,by go_num,rfl,by omega,by omega,bd,hle,bk.out,bc,Y,S,bl.out⟩
     case measure=>simp[intOf];omega
    case neg=>
    have bb:¬(b:Int)<=(N:Int):=by omega
    by_cases hmN:m<N
    case pos=>
     have bt:(m:Int)<(N:Int):=by omega
     have k1:=br.out (by omega) (by omega)
     have T:=bs.out hmN
     rw[show min b N=N by omega] at T
     have HA:Hid (Asked R cf g N w0 c1 c2 j a m N wr):=⟨H.out.tot,H.out.cmp,H.out.cr,d.out,y.out,HV.out,bo,hmN,Nat.le_refl _,by omega,k1.2,T.2,Xlm H.out.up k1 T (Nat.le_refl _)⟩
     have bi:=Xa k1
     have bj:=Xa T
     clear k1 T
     go_wp2_with fail
     refine (Xfl R cf g N cap w0 c1 c2 (N-a) j a m N wr (Nat.le_refl _) HA.out).mono ?_
     rintro e w2 ⟨rfl,f2,V,t,X⟩
     have Y:Hid (Xd0 R f f2 D 0 N):=Xhs (fun x hx hlt=>(HU.out x hx hlt).kept (fun p J h2=>t.out p (Or.inl (by have:=Xd1 hx G.out hlt;omega)))) G.out L (by have:=F.out;omega) (fun _=>Xi3 bi.out bj.out t (by omega) (by omega))
     have S:Hid (∀p,p<N->∃q,q<N/\f2 p=f q):=fun p hp=>by
      by_cases c:a<=p/\p<N
      ·obtain ⟨q,q1,q2,q3⟩:=t.inn p c.1 c.2
       rw[q3];exact C.out q (by omega)
      ·rw[t.out p (by omega)];exact C.out p hp
     have bk:=Xa V
     have bl:=Xa X
     clear V t X
     go_wp2_with fail
     go_roundw
     case rel=>exact ⟨D,f2,by go_num,by omega,by have:=ba.out;omega,bk.out,Y,S,bl.out⟩
     case measure=>simp[intOf];omega
    case neg=>
     have bt:¬(m:Int)<(N:Int):=by omega
     have Y:Hid (Xd0 R f j D 0 N):=Xhs HU.out G.out L (by have:=F.out;omega) (fun h=>by
      have:=HF.out a bh.out (Nat.le_refl _) h
      rw[show min (a+s) N=N by have:=bg.out;omega] at this
      exact this)
     go_wp2_with fail
     go_roundw
     case rel=>exact ⟨D,j,by go_num,by omega,by have:=ba.out;omega,d.out,Y,C,y.out⟩
     case measure=>simp[intOf];omega


theorem Xeh {w:World} {b t n:Nat} {f:Nat->Value} (h:w.rowIs b t n f):WRow w b n:=fun j hj=>⟨⟨_,h.cell hj⟩,h.frozen j⟩
theorem OwnAt.marky {w:World} {b:Nat} {vs:List VN} {KB KI:Nat->Nat} (h:OwnAt w b vs KB KI) (hn:vs.length<=1048576) (hk:∀i,i<vs.length->(Xb vs i).keys.length<=1048576/\(Xb vs i).kids.length<=1048576):
  Marky b w b vs.length (fun i=>(Xb vs i).keys.length) (fun i=>(Xb vs i).kids.length) KB KI:=by
 have mono:∀i j,i<vs.length->j<vs.length->i≠j->KI i<KB j\/KI j<KB i:=by
  intro i j c d e
  rcases Nat.lt_or_gt_of_ne e with e|e
  ·exact Or.inl (h.to.mono i j e d)
  ·exact Or.inr (h.to.mono j i e c)
 refine ⟨Nat.le_refl _,h.row.lt,hn,Xeh h.row,hk,fun i c=> ?_,fun i c=> ?_,fun i c=> ?_,fun i j c d e _ _=> ?_,fun i j c d _ _=> ?_,fun i j c d e _ _=> ?_⟩
 ·refine ⟨_,_,by rw[h.row.cell (by omega),Xep],fun _=>⟨rfl, ?_,(h.to.rk i c).lt,Xeh (h.to.rk i c)⟩⟩
  have:=h.to.lo i c
  omega
 ·refine ⟨_,_,by rw[h.row.cell (by omega),Xeq],fun _=>⟨rfl, ?_,(h.to.ri i c).lt,Xeh (h.to.ri i c)⟩⟩
  have:=h.to.lo i c
  omega
 ·have:=h.to.lo i c
  exact ⟨fun _=>by omega,fun _=>by omega⟩
 ·have:=h.to.lo i c
  have:=h.to.lo j d
  have:=mono i j c d e
  omega
 ·have:=h.to.lo i c
  have:=h.to.lo j d
  by_cases e:i=j
  ·subst e;omega
  ·have:=mono i j c d e
   omega
 ·have:=h.to.lo i c
  have:=h.to.lo j d
  have:=mono i j c d e
  omega
theorem OwnAt.marked {w:World} {b x:Nat} {vs:List VN} {KB KI:Nat->Nat} (h:OwnAt w b vs KB KI) (hx:Xaj b vs.length (fun i=>(Xb vs i).keys.length) (fun i=>(Xb vs i).kids.length) KB KI x):b<=x/\x<w.heap.size:=by
 obtain ⟨_,rfl|⟨i,c,⟨_,rfl⟩|⟨_,rfl⟩⟩⟩:=hx
 ·exact ⟨Nat.le_refl _,h.row.lt⟩
 ·have:=h.to.lo i c
  exact ⟨by omega,(h.to.rk i c).lt⟩
 ·have:=h.to.lo i c
  exact ⟨by omega,(h.to.ri i c).lt⟩


theorem Xir (B:Nat) (v:Value) (l:List Int) (r:Int) (w:World) (h:RawInts B w v l) (h1:0<=r) (h2:r<=1048576):
  Calls Tryz.prog 88 #[v, .int .i64 r] w fun e w'=>(∃q,e= .returned (.int .i64 q)/\q<=1048576/\(0<=q->q+l.length<=r))/\w'=w:=by
 obtain ⟨b,_,a,c,rfl,_⟩:=h
 go_enter Tryz.func88,Tryz.ntmps88
 go_wp2
 ·go_ret
  exact ⟨⟨_,rfl,by omega,fun h=>by omega⟩,rfl⟩
 ·go_ret
  exact ⟨⟨_,rfl,by omega,fun h=>by omega⟩,rfl⟩
theorem Xgw (B:Nat) (v:Value) (l:List ByteArray) (r:Int) (w:World) (h:RawStrs B w v l) (h1:0<=r) (h2:r<=1048576):
  Calls Tryz.prog 87 #[v, .int .i64 r] w fun e w'=>(∃q,e= .returned (.int .i64 q)/\q<=1048576/\(0<=q->q+l.length<=r/\∀i,i<l.length->(Xf l i).size<=1048576))/\w'=w:=by
 obtain ⟨f,d,a,s,rfl,c⟩:=h
 go_enter Tryz.func87,Tryz.ntmps87
 go_wp2
 ·go_ret
  exact ⟨⟨_,rfl,by omega,fun h=>by omega⟩,rfl⟩
 ·go_loop [1,5] (fun t i=>∃(k:Nat) (q:Int),k<=l.length/\i= .int .i64 k/\t= .int .i64 q/\0<=q/\q+l.length<=r/\Hid (∀j,j<k->(Xf l j).size<=1048576)) (fun _ i=>l.length-(intOf i).toNat)
  case atStart=>exact ⟨0,_,Nat.zero_le _,rfl,rfl,by omega,by omega,fun j hj=>by omega⟩
  case round=>
   obtain ⟨k,q,D,rfl,rfl,y,z,g⟩:=hrel
   by_cases hlt:k<l.length
   ·obtain ⟨b,o,rfl,_,p⟩:=c (by omega)
    have C:=p k hlt
    have F:=d k hlt
    clear p c d
    go_wp2
    ·go_ret
     exact ⟨⟨_,rfl,by omega,fun h=>by omega⟩,rfl⟩
    ·go_round
     case rel=>
      refine ⟨k+1,_,by omega,by go_num,rfl,by omega,by omega,fun j hj=> ?_⟩
      by_cases e:j=k
      ·subst e;omega
      ·exact g.out j (by omega)
     case measure=>simp[intOf];omega
   ·obtain rfl:k=l.length:=by omega
    go_wp2
    go_ret
    exact ⟨⟨_,rfl,by omega,fun _=>⟨by omega,g.out⟩⟩,rfl⟩
theorem Xxw (B:Nat) (x:VN) (ka ki:Value) (r:Int) (w:World) (h:RawIn B w x ka ki) (hB:B<=w.heap.size) (h1:0<=r) (h2:r<=1048576):
  Calls Tryz.prog 42 #[.agg #[.int .i64 x.kind, .int .i64 x.n, .string x.s,ka,ki], .int .i64 r] w fun e w'=>(∃q,e= .returned (.int .i64 q)/\q<=1048576/\(0<=q->Small x/\q+x.keys.length+x.kids.length<=r))/\Below w.heap.size w w':=by
 have l:=h.size
 obtain ⟨_,_,D,c1,p,_⟩:=h.keys
 obtain ⟨_,_,F,G,t,_⟩:=h.kids
 have b:∀(o:Obj),Below w.heap.size w (w.alloc o):=fun o=>(Below.refl _ _).alloc (Nat.le_refl _) o
 have H:=Xa h
 subst p t
 clear h
 go_enter Tryz.func42,Tryz.ntmps42
 go_wp2_with fail
 ·go_ret
  exact ⟨⟨_,rfl,by omega,fun h=>by omega⟩,b _⟩
 ·refine (Xgw B _ _ _ _ (H.out.keys.below ((b _).mono hB)) (by omega) (by omega)).mono ?_
  rintro e w' ⟨⟨q,rfl,J,f⟩,rfl⟩
  have g:=Xa f
  have y:(x.s.size:Int)<=1048576:=by omega
  clear f
  go_wp2_with fail
  ·go_ret
   exact ⟨⟨_,rfl,by omega,fun h=>by omega⟩,b _⟩
  ·have j:0<=q:=by omega
   have z:=(g.out j).1
   refine (Xir B _ _ _ _ (H.out.kids.below ((b _).mono hB)) (by omega) (by omega)).mono ?_
   rintro e w' ⟨⟨L,rfl,C,c⟩,rfl⟩
   have d:=Xa c
   clear c
   go_wp2_with fail
   ·go_ret
    exact ⟨⟨_,rfl,by omega,fun h=>by omega⟩,b _⟩
   ·go_ret
    refine ⟨⟨_,rfl,by omega,fun h=> ?_⟩,b _⟩
    have M:=d.out h
    exact ⟨⟨by omega,by omega,(g.out j).2,by omega⟩,by omega⟩
def knW (vs:List VN) (i:Nat):Nat:=(Xb vs i).keys.length
def inW (vs:List VN) (i:Nat):Nat:=(Xb vs i).kids.length
def wt (vs:List VN):Nat:=off (knW vs) (inW vs) 0 vs.length
theorem Xis (B:Nat) (v:Value) (vs:List VN) (r:Int) (w:World) (h:RawNodes B w v vs) (hB:B<=w.heap.size) (h1:0<=r) (h2:r<=1048576):
  Calls Tryz.prog 12 #[v, .int .i64 r] w fun e w'=>(∃q,e= .returned (.int .i64 q)/\q<=1048576/\(0<=q->vs.length<=1048576/\(∀i,i<vs.length->Small (Xb vs i))/\wt vs+3 *q<=3 *r))/\Below w.heap.size w w':=by
 have S:Hid (wt vs=off (knW vs) (inW vs) 0 vs.length):=rfl
 obtain ⟨G,a,T,rfl,f⟩:=h
 go_enter Tryz.func12,Tryz.ntmps12
 go_wp2_with fail
 ·go_ret
  exact ⟨⟨_,rfl,by omega,fun h=>by omega⟩,Below.refl _ _⟩
 ·go_loopw [1,5] (fun t i wr=>∃(k:Nat) (q:Int),k<=vs.length/\i= .int .i64 k/\t= .int .i64 q/\0<=q/\q<=r/\Hid (∀j,j<k->Small (Xb vs j))/\Hid ((off (knW vs) (inW vs) 0 k:Int)+3 *q+3 *(vs.length-k)<=3 *r)/\Below w.heap.size w wr) (fun _ i _=>vs.length-(intOf i).toNat)
  case atStart=>exact ⟨0,_,Nat.zero_le _,rfl,rfl,by omega,by omega,fun j hj=>by omega,by simp[Hid,off];omega,Below.refl _ _⟩
  case round=>
   obtain ⟨k,q,hk,rfl,rfl,V,X,J,L,d⟩:=hrel
   by_cases hlt:k<vs.length
   ·obtain ⟨b,o,rfl,y,M⟩:=f (by omega)
    obtain ⟨Y,Z,P⟩:=M k hlt
    have c:=P.below (d.mono hB) y
    have c0:=c.c0
    have c1:=c.c1
    have c2:=c.c2
    have c3:=c.c3
    have c4:=c.c4
    have z:=Xa c.inn
    have g:=d.size
    clear M f P c
    go_wp2_with fail
    refine (Xxw B (Xb vs k) Y Z _ _ z.out (by omega) (by omega) (by omega)).mono ?_
    rintro e w' ⟨⟨C,rfl,ba,l⟩,D⟩
    have p:Below w.heap.size w w':=d.trans (D.mono g)
    have R:=Xa l
    clear l
    go_wp2_with fail
    ·go_ret
     exact ⟨⟨_,rfl,by omega,fun h=>by omega⟩,p⟩
    ·have s:=Xa (R.out (by omega)).2
     have bb:C<=q:=by have:=s.out;omega
     have F:Hid ((off (knW vs) (inW vs) 0 (k+1):Int)+3 *C+3 *(vs.length-(k+1:Nat))<=3 *r):=by
      have a1:=L.out
      have a2:=s.out
      show ((off (knW vs) (inW vs) 0 k+3+(Xb vs k).keys.length+(Xb vs k).kids.length:Nat):Int)+3 *C+3 *(vs.length-(k+1:Nat))<=3 *r
      omega
     go_roundw
     case rel=>
      refine ⟨k+1,_,by omega,by go_num,rfl,by omega,by omega,fun j hj=> ?_,F.out,p⟩
      by_cases e:j=k
      ·subst e;exact (R.out (by omega)).1
      ·exact J.out j (by omega)
     case measure=>simp[intOf];omega
   ·obtain rfl:k=vs.length:=by omega
    go_wp2_with fail
    go_ret
    refine ⟨⟨_,rfl,by omega,fun _=>⟨by omega,J.out, ?_⟩⟩,d⟩
    have:=L.out
    rw[S.out]
    omega


theorem Xi2 {P:Program} {w:World} (base:Nat) (t ty e:TypeId) (i:TypeInfo) (size c:Nat) (ax:Option Addr) (ht:P.underlying t=some (.slice e)) (hi:P.info? e=some i)
  (v:Value) (n:Nat) (xs:List Value) (hown:w.ownsRow base e size v n xs):
  (Builtin.append_ #[t,t] ty #[v, .slice ax 0 c]).run P w= .ok v w:=by
 rcases hown.2 with ⟨rfl,rfl⟩|⟨g,cap,cur,rfl,_,_,hnc,_⟩
 ·cases ax<;>simp[Builtin.append_,run_underlying ht,sizeOf,typeInfo,hi,Builtin.lenOf,Builtin.firstCells,loadCells,loadCellsFrom,Result.andThen]
 ·cases ax<;>simp[Builtin.append_,run_underlying ht,sizeOf,typeInfo,hi,Builtin.lenOf,Builtin.firstCells,hnc,storeCells,loadCells,loadCellsFrom,Result.andThen]
theorem Zk {P:Program} {w:World} {ops:Array Oper} {o:Oper} {a:Act} {K:Act->World->Prop} {Q:Exit->Act->World->Prop} {E:Prop} (hgd:o.guard=none) (s x:Operand) (t:TypeId)
  (ho:o.op= .call {callee:= .builtin .append,args:= #[s,x],argTypes:= #[t,t]})
  (base:Nat) (e:TypeId) (i:TypeInfo) (z:Value) (size bytes:Nat) (ht:P.underlying t=some (.slice e)) (hi:P.info? e=some i) (hz:i.zero=some z)
  (hsize:i.size=size) (hby:i.bytes=bytes) (hzs:z.cells.size=size) (hsz:0<size)
  (v:Value) (n:Nat) (xs:List Value) (hs:a.eval s=v) (hown:w.ownsRow base e size v n xs)
  (ax:Option Addr) (m c:Nat) (news:List Value) (hx:a.eval x= .slice ax m c) (hl:news.length=m *size) (hsrc:0<m->∃ad,ax=some ad/\∀j u,news[j]? =some u->w.cell? (ad.add j)=some u) (h1:∀u∈news,u.oneCell'=true)
  (h63:n+m<=maxLen) (hbytes:(n+m) *bytes<=140737488355328) (hbase:base<=w.heap.size)
  (h:∀v' w',w'.ownsRow base e size v' (n+m) (xs++news)->w.grownBy w' v.ownBlock->(v'.ownBlock=v.ownBlock\/v'.ownBlock=some w.heap.size)->K (a.put o.dst v') w'):
  if Region.wanted o (yielded ops a.tmps)=true then Oper.wp P o a w K Q else E:=by
 have d:Region.wanted o (yielded ops a.tmps)=true:=by simp[Region.wanted,hgd]
 rw[if_pos d]
 rcases Nat.eq_zero_or_pos m with e0|e0
 ·subst e0
  obtain rfl:news= []:=List.eq_nil_of_length_eq_zero (by simpa using hl)
  have b:=Xi2 (P:=P) (w:=w) base t o.type e i size c ax ht hi v n xs hown
  unfold Oper.wp
  simp[execOp,ho,resolve,invoke,builtin,hs,hx,b,Result.andThen]
  exact h v w (by simpa using hown) ⟨rfl,rfl,rfl,Nat.le_refl _,fun _ _ _=>rfl⟩ (Or.inl rfl)
 ·obtain ⟨ad,rfl,f⟩:=hsrc e0
  exact wp_append_lies w s x t ho base e i z size bytes ht hi hz hsize hby hzs hsz v n xs hs hown ad m c news hx hl f h1 e0 h63 hbytes hbase w.heap.size rfl (fun g cap w' h2 h3 h4 _=>h _ w' h2 h3 (by
   rcases h4 with h4|h4
   ·exact Or.inl (by rw[h4];rfl)
   ·exact Or.inr (by rw[h4];rfl)))
theorem Q5 {P:Program} {w:World} {ops:Array Oper} {o:Oper} {a:Act} {K:Act->World->Prop} {Q:Exit->Act->World->Prop} {E:Prop} (hgd:o.guard=none) (F:FuncId) (x1 x2 x3 x4:Operand) (T1 T2 T3 T4:TypeId)
  (ho:o.op= .call {callee:= .value (.func F),args:= #[x1,x2,x3,x4],argTypes:= #[T1,T2,T3,T4]}) (v1 v2 v3 v4:Value) (h1:a.eval x1=v1) (h2:a.eval x2=v2) (h3:a.eval x3=v3) (h4:a.eval x4=v4) (hcf:∀w,(callFunc F #[v1,v2,v3,v4]).run P w= .ok (.enter F #[v1,v2,v3,v4]) w) {R:Ending->World->Prop} (hc:Calls P F #[v1,v2,v3,v4] w R)
  (h:∀e w',R e w'->∃u,e= .returned u/\K (a.put o.dst u) w'):
  if Region.wanted o (yielded ops a.tmps)=true then Oper.wp P o a w K Q else E:=by
 have b:Region.wanted o (yielded ops a.tmps)=true:=by simp[Region.wanted,hgd]
 rw[if_pos b]
 unfold Oper.wp execOp
 have c:a.eval (.func F)= .func (.func F) #[] #[]:=rfl
 simp[ho,resolve,invoke,h1,h2,h3,h4,c,Deferred.ofValue,hcf,Result.andThen,Oper.upon_enter]
 refine hc.mono fun e w' hr=> ?_
 obtain ⟨u,rfl,d⟩:=h e w' hr
 exact d


end Go.Proofs.YtdjddneidbddpaaGreatDoor
