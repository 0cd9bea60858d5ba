import Derived.Test.YtdjddneidbddpaaGreatDoorPsZ
import Derived.Test.YtdjddneidbddpaaGreatDoorIMinA
import Derived.Test.YtdjddneidbddpaaGreatDoorLowN
import Derived.Test.YtdjddneidbddpaaGreatDoorProg
import Derived.Deep.QuietTactic
import Derived.BigQuiet
import Derived.WalkSmall
import Derived.Test.YtdjddneidbddpaaGreatDoorSpc3
namespace Go.Proofs.YtdjddneidbddpaaGreatDoor
set_option linter.unusedSectionVars false
set_option maxHeartbeats 6400000
open Go.RowKit
set_option linter.unusedSimpArgs false
set_option linter.unusedVariables false
def Zm (x:VN):Option Int:=
 if x.kind=1 then some 0
 else if x.kind=3 then some (max x.n (-x.n))
 else if x.kind=4 then some (x.s.size:Int)
 else if x.kind=5\/x.kind=6 then some (x.kids.length:Int)
 else none
def Xd (vs:List VN):VN:=Xb vs (vs.length-1)
def Xmq (o:Option Int):List VN:=match o with
 |some n=>Xr 3 n ByteArray.empty
 |none=> []
def Xio (o:Option Int):Int:=match o with
 |some _=>0
 |none=>2
def Gy (vs:List VN):List VN:=if okB vs=true then Xmq (Zm (Xd vs)) else []
def Xax (vs:List VN):Int:=if okB vs=true then Xio (Zm (Xd vs)) else 1
theorem Xdy (n:Int) (h1: -9223372036854775808<=n) (h2:n<=9223372036854775807):Few (Xr 3 n ByteArray.empty)/\∀i,i<(Xr 3 n ByteArray.empty).length->Fits (Xb (Xr 3 n ByteArray.empty) i):=by
 have b:∀i,i<(Xr 3 n ByteArray.empty).length->i=0:=fun i hi=>by simp[Xr] at hi;omega
 refine ⟨⟨by simp[Xr],fun i hi=> ?_⟩,fun i hi=> ?_⟩
 ·obtain rfl:=b i hi
  exact ⟨by simp[Xr,Xb],by simp[Xr,Xb]⟩
 ·obtain rfl:=b i hi
  refine ⟨by simp[Xr,Xb],fun i hi=>absurd hi (by simp[Xr,Xb]),by simp[Xr,Xb],fun i hi=>absurd hi (by simp[Xr,Xb]),by simp[Xr,Xb],by simp[Xr,Xb],by simp[Xr,Xb],by simpa [Xr,Xb] using h1,by simpa [Xr,Xb] using h2⟩
theorem Jw {vs:List VN} (hok:okB vs=true):(Xd vs).kind=1\/(Xd vs).kind=2\/((Xd vs).kind=3/\-1000000000000000<=(Xd vs).n/\(Xd vs).n<=1000000000000000)\/((Xd vs).kind=4/\(Xd vs).s.size<=60)\/((Xd vs).kind=5/\(Xd vs).kids.length<=80)\/((Xd vs).kind=6/\(Xd vs).kids.length<=80):=by
 obtain ⟨j,f,_,g⟩:=Xm hok
 have c:=(f (vs.length-1) (by omega)).1
 have l:=g (vs.length-1) (by omega)
 have b:(Xd vs).kids.length<=80:=by unfold Xd;omega
 change Xz (Xd vs)=true at c
 unfold Xz Zi at c
 simp only[Bool.and_eq_true] at c
 have d:=c.2
 by_cases k1:(Xd vs).kind=1
 ·exact Or.inl k1
 by_cases k2:(Xd vs).kind=2
 ·exact Or.inr (Or.inl k2)
 by_cases k3:(Xd vs).kind=3
 ·simp[k3] at d;exact Or.inr (Or.inr (Or.inl ⟨k3,by omega,by omega⟩))
 by_cases k4:(Xd vs).kind=4
 ·simp[k4,Z6] at d;exact Or.inr (Or.inr (Or.inr (Or.inl ⟨k4,d.1⟩)))
 by_cases k5:(Xd vs).kind=5
 ·exact Or.inr (Or.inr (Or.inr (Or.inr (Or.inl ⟨k5,b⟩))))
 by_cases k6:(Xd vs).kind=6
 ·exact Or.inr (Or.inr (Or.inr (Or.inr (Or.inr ⟨k6,b⟩))))
 simp[k1,k2,k3,k4,k5,k6] at d
theorem Xlb {vs:List VN} (hok:okB vs=true) {n:Int} (h:Zm (Xd vs)=some n):0<=n/\n<=1000000000000000:=by
 unfold Zm at h
 rcases Jw hok with k|k|⟨k,a,b⟩|⟨k,a⟩|⟨k,a⟩|⟨k,a⟩<;>simp[k] at h<;>omega


set_option maxRecDepth 100000 in
theorem Xmc (B base f:Nat) (hB:B<=base) (ih:Xj2 B base f) (keys:List ByteArray) (kids:List VT) (kv0 it v:Value) (ns:List VN) (KV IV:Nat->Value) (w:World) (hks:StrsAt B w kv0 keys) (hit:Jb B w it kids.length (fun j u=>TreeAt B w f (Yg kids j) u)) (h:Nest base w v ns KV IV) (hb:base<=w.heap.size) (hn:ns.length+(Xx f ns.length kids kids.length).length+1<=100000):
  Calls Tryz.prog 31 #[v, .iface 118 (.agg #[kv0,it])] w fun e w'=>∃v' KV' IV',e= .returned v'/\Laid base w w' v v' ns (Xx f ns.length kids kids.length++ [{kind:=6,n:=0,s:=ByteArray.empty,keys:=keys,kids:=ksT f ns.length kids kids.length}]) KV IV KV' IV':=by
 have H:=Xa h
 obtain ⟨av,cv,rfl⟩:=Xg h.row
 clear h
 obtain ⟨ch,ai,ci,rfl,hx⟩:=hit
 have HX:=Xa hx
 have bb:=Xa hks
 obtain ⟨cj,_,aK,cK,rfl,_⟩:=hks
 have IH:=Xa ih
 clear hx ih
 have cl:=Xcp
 have cm:=Uo
 have cn:=Wx
 have cp:=Xdi
 obtain ⟨i0,bq,br,bs,bt⟩:=info_parts Kl
 obtain ⟨i1,bu,bv,bw,bx⟩:=info_parts Wj
 obtain ⟨i2,bz,b0,b1,b2⟩:=info_parts Wi
 go_enter Tryz.func31,Tryz.ntmps31
 go_wp2_with fail
 refine (K6 _ _ _ _ _ _ _).mono ?_
 rintro e l ⟨rfl,bc⟩
 have b3:=Xa bc
 go_wp2_with fail
 refine (Um _ _ _ _ _ _ _).mono ?_
 rintro e w2 ⟨rfl,ba⟩
 have C:=Xa (Mid.start H.out hb b3.out ba)
 have z2:l.heap.size<w2.heap.size:=by have:=ba.size;simp at this;omega
 clear bc ba
 go_wp2_with fail
 go_loopw [0,18] (fun o i wr=>∃(k:Nat) (Y:Value) (KV' IV':Nat->Value),k<=kids.length/\i= .int .i64 k/\Mid base w wr l.heap.size (.slice av ns.length cv) o Y ns (Xx f ns.length kids k) (ksT f ns.length kids k) [.int .i64 6, .int .i64 0, .string ⟨#[]⟩, .slice none 0 0,Y] KV IV KV' IV') (fun _ i _=>kids.length-(intOf i).toNat)
 case atStart=>exact ⟨0,_,_,_,Nat.zero_le _,rfl,by rw[Qo,Q3];exact C.out⟩
 case round=>
  obtain ⟨k,Y,KV',IV',hk,rfl,hm⟩:=hrel
  clear C z2
  have C:=Xa hm
  obtain ⟨ao,co,ho⟩:=Xg hm.nest.row
  obtain ⟨M,hM⟩:∃M,(ns++Xx f ns.length kids k).length=M:=⟨_,rfl⟩
  have bd:=Xa hM
  have be:=Xbc f ns.length kids k
  rw[hM] at ho
  subst ho
  have cq:=hm.frame.size
  have cr:M+1<=100000:=by rw[<-hM,List.length_append];omega
  clear hm hM
  by_cases hlt:k<kids.length
  ·obtain ⟨b,rfl,b4,hc⟩:=HX.out (by omega)
   obtain ⟨t,x,T,bf⟩:=hc k hlt
   have cg:wr.cell? ⟨b,k,none⟩=some (.iface t x):=(World.cell?_of_block (C.out.keepB hB b b4)).trans T
   have HT:=Xa (TreeAt.keep (C.out.keepB hB) (Nat.le_refl _) bf)
   have D:=Xbc f ns.length kids (k+1)
   have HA:=Xa (Zg f ns.length hlt)
   have bg:Hid ((ns++Xx f ns.length kids k).length=ns.length+(Xx f ns.length kids k).length):=List.length_append
   clear hc T bf
   go_wp2_with fail
   refine (IH.out (Yg kids k) (.iface t x) _ (ns++Xx f ns.length kids k) KV' IV' wr C.out.nest HT.out (by omega) (by rw[bg.out];rw[HA.out,List.length_append] at D;omega)).mono ?_
   rintro e w3 ⟨v3,b5,b6,rfl,hl⟩
   have V:=C.out.laid hl
   rw[bg.out,<-HA.out] at V
   have F:=Xa V
   obtain ⟨a3,c3,h3⟩:=Xg V.nest.row
   obtain ⟨L,hL⟩:∃L,(ns++Xx f ns.length kids (k+1)).length=L:=⟨_,rfl⟩
   rw[hL] at h3
   subst h3
   have cs:L<=100000:=by rw[<-hL,List.length_append];omega
   have b7:Hid (ksT f ns.length kids (k+1)=ksT f ns.length kids k++ [(L:Int)-1]):=by rw[Hid,Qs f ns.length hlt,<-hL,List.length_append]
   have bh:=Xcz f ns.length kids hk
   have X:=Xa bh
   have y4:w3.cell? ⟨l.heap.size,4,none⟩=some Y:=F.out.node.cellAt 4 (by omega)
   have ct:1<=L:=by
    have:=Xm2 HT.out (ns.length+(Xx f ns.length kids k).length)
    rw[<-hL,HA.out,List.length_append,List.length_append]
    omega
   have bi:=Xa F.out.kids
   obtain ⟨R,S,bj⟩:=Xg bi.out
   rw[X.out] at bj
   subst bj
   have b8:=Xa F.out.frame.size
   clear V hl hL bh be D
   go_wp2_with (at_builtin;refine wpList_append_own_at _ rfl _ _ 73 rfl w.heap.size 2 i2 (.int .i64 0) 1 8 Tryz.underlying73 bz b0 b1 b2 rfl (by decide) _ _ _ rfl (bi.out.alloc _) ⟨w3.heap.size,0,none⟩ 1 1 [.int .i64 ((L:Int)-1)] rfl rfl ?c1 ?c2 ?c3 ?c4 ?c5 ?_)
   case c1=>exact cell_one_new _ _ _
   case c2=>intro u hu;simp at hu;subst hu;rfl
   case c3=>rw[X.out];simp[maxLen];omega
   case c4=>rw[X.out];omega
   case c5=>have:=b8.out;simp;omega
   intro cu G g d _ J
   obtain ⟨cw,cx,bl⟩:=Xg g
   rw[X.out] at bl
   subst bl
   have n5:=Xip F.out d
   have x4:G.cell? ⟨l.heap.size,4,none⟩=some (.slice R k S):=n5.cellAt 4 (by omega)
   have f4:G.frozen? ⟨l.heap.size,4,none⟩=false:=n5.frozenAt 4
   have b9:=Xa (F.out.kid g d (by simpa using J))
   clear g d J n5
   go_wp2_with fail
   go_roundw
   case rel=>exact ⟨k+1,_,b5,b6,by omega,by go_num,by rw[b7.out];exact b9.out⟩
   case measure=>simp[intOf];omega
  ·obtain rfl:k=kids.length:=by omega
   have zw:=(C.out.node.lt _ rfl).2
   have y3:wr.cell? ⟨l.heap.size,3,none⟩=some (.slice none 0 0):=C.out.node.cellAt 3 (by omega)
   have bm:Hid (0<keys.length->∃ad,aK=some ad/\∀j u,(keys.map Value.string)[j]? =some u->(wr.alloc (.cells #[.slice aK keys.length cK, .slice ai kids.length ci] 118)).cell? (ad.add j)=some u):=by
    intro hp
    obtain ⟨_,_,cy,cz,e,T⟩:=bb.out
    cases e
    obtain ⟨bk,ok,rfl,ca,cb⟩:=T hp
    refine ⟨_,rfl,fun j u hj=> ?_⟩
    have bn:j<keys.length:=by have:=(List.getElem?_eq_some_iff.1 hj).1;simpa using this
    have cc:bk<wr.heap.size:=by omega
    rw[show (⟨bk,ok,none⟩:Addr).add j=⟨bk,ok+j,none⟩ by simp[Addr.add],Xc ((Below.refl _ wr).alloc (Nat.le_refl _) _) cc,World.cell?_of_block (C.out.keepB hB bk ca),cb j bn]
    simp[bn,Xf] at hj|-
    exact hj
   go_wp2_with (at_builtin;refine X6 rfl _ _ 72 rfl w.heap.size 9 i1 (.string ByteArray.empty) 1 16 Tryz.underlying72 bu bv bw bx rfl (by decide) _ 0 [] rfl (World.ownsRow_nil _ _ _ _) aK keys.length cK (keys.map .string) rfl (by simp) bm.out ?c2 ?c3 ?c4 ?c5 ?_)
   case c2=>intro u hu;first|rfl|(obtain ⟨q,_,rfl⟩:=List.mem_map.1 hu;rfl)
   case c3=>unfold maxLen;omega
   case c4=>omega
   case c5=>first|omega|(simp;omega)
   intro vk G P bo Z
   (try simp only[Nat.zero_add,List.nil_append] at P)
   have p:=(C.out.grow (World.grownBy_alloc wr _ none)).grow bo
   have bp:=P.kept (p.node.stored 3 vk).2 (Yk P p.node (by decide))
   have cd:=Xa bp
   have z:=Xa (p.put 3 vk)
   have ce:Hid (∀j,j<ns.length+(Xx f ns.length kids kids.length).length->∀y,vk.ownBlock=some y->(KV' j).ownBlock≠some y):=by
    intro j hj y hy e
    have h1:=((C.out.nest.rk j (by simpa using hj)).lt y e).2
    rcases Z with e2|e2
    ·rw[e2] at hy;simp[Value.ownBlock] at hy
    ·rw[e2] at hy;simp at hy;omega
   obtain ⟨R,S,cf⟩:=Xg P
   subst cf
   have x3:G.cell? ⟨l.heap.size,3,none⟩=some (.slice none 0 0):=p.node.cellAt 3 (by omega)
   have f3:G.frozen? ⟨l.heap.size,3,none⟩=false:=p.node.frozenAt 3
   have c6:=p.frame.size
   have X0:(G.setCell ⟨l.heap.size,3,none⟩ (.slice R keys.length S)).cell? ⟨l.heap.size,0,none⟩=some (.int .i64 6):=z.out.node.cellAt 0 (by omega)
   have X1:(G.setCell ⟨l.heap.size,3,none⟩ (.slice R keys.length S)).cell? ⟨l.heap.size,1,none⟩=some (.int .i64 0):=z.out.node.cellAt 1 (by omega)
   have X2:(G.setCell ⟨l.heap.size,3,none⟩ (.slice R keys.length S)).cell? ⟨l.heap.size,2,none⟩=some (.string ⟨#[]⟩):=z.out.node.cellAt 2 (by omega)
   have X3:(G.setCell ⟨l.heap.size,3,none⟩ (.slice R keys.length S)).cell? ⟨l.heap.size,3,none⟩=some (.slice R keys.length S):=z.out.node.cellAt 3 (by omega)
   have X4:(G.setCell ⟨l.heap.size,3,none⟩ (.slice R keys.length S)).cell? ⟨l.heap.size,4,none⟩=some Y:=z.out.node.cellAt 4 (by omega)
   have HN:=Xa (z.out.nest.row.alloc (.cells #[.int .i64 6, .int .i64 0, .string ⟨#[]⟩, .slice R keys.length S,Y] 75))
   rw[bd.out] at HN
   have h1:Y.oneCell'=true:=by obtain ⟨a,c,rfl⟩:=Xg C.out.kids;rfl
   clear p bp P bo Z y3
   go_wp2_with (at_builtin;refine wpList_append_own_at _ rfl _ _ 25 rfl base 75 i0 zeroNode 5 80 Tryz.underlying25 bq br bs bt rfl (by decide) _ _ _ rfl HN.out ⟨G.heap.size,0,none⟩ 1 1 [.int .i64 6, .int .i64 0, .string ⟨#[]⟩, .slice R keys.length S,Y] rfl rfl ?c1 ?c2 ?c3 ?c4 ?c5 ?_)
   case c1=>exact Xed _ _ _ _ _ _ _ (by simp)
   case c2=>intro u hu;simp at hu;rcases hu with rfl|rfl|rfl|rfl|rfl<;>first|rfl|exact h1
   case c3=>unfold maxLen;omega
   case c4=>omega
   case c5=>simp;omega
   intro v' w6 g d _ J
   have HL:=Xa (Mid.fin (x:={kind:=6,n:=0,s:=⟨#[]⟩,keys:=keys,kids:=ksT f ns.length kids kids.length}) z.out rfl cd.out ce.out (by rw[bd.out];exact g) d (by simpa using J))
   clear g d J
   go_wp2_with fail
   go_ret
   exact ⟨_,_,_,rfl,HL.out⟩
theorem Xem (B base:Nat) (hB:B<=base):∀f,Xj2 B base f:=by
 intro f
 induction f with
 |zero=>intro t x v c d g w _ h;exact h.elim
 | succ f ih =>
  intro t x v c d g w b h l j
  obtain ⟨o,n,s,keys,kids⟩:=t
  rw[Qw] at j|-
  rcases h with ⟨rfl,rfl,rfl,rfl,rfl,rfl⟩|⟨rfl,rfl,rfl,rfl,rfl⟩|⟨rfl,rfl,rfl,rfl,rfl⟩|⟨rfl,rfl,rfl,rfl,rfl⟩|⟨rfl,rfl,rfl,rfl,it,rfl,hi⟩|⟨rfl,rfl,rfl,ks,it,rfl,hs,hi⟩
  ·have:=Xko base v c d g w b l (by simp at j;omega)
   simpa [Xx,ksT,Zq] using this
  ·have:=Xkp n base v c d g w b l (by simp at j;omega)
   simpa [Xx,ksT,Zq] using this
  ·have:=Xmj n base v c d g w b l (by simp at j;omega)
   simpa [Xx,ksT,Zq] using this
  ·have:=Xkq s base v c d g w b l (by simp at j;omega)
   simpa [Xx,ksT,Zq] using this
  ·exact Xj3 B base f hB ih kids it v c d g w hi b l (by simp at j;omega)
  ·exact Xmc B base f hB ih keys kids ks it v c d g w hs hi b l (by simp at j;omega)


def Y9 (ks:List ByteArray):Nat->Option (List ByteArray×List Nat)
 |0=>some ([],[])
 | i + 1 => match Y9 ks i with
  |none=>none
  |some (ns,ps)=>if Y0 ns (Xf ks i)=true then none else some (ns.take (Z3 ns (Xf ks i))++ [Xf ks i]++ns.drop (Z3 ns (Xf ks i)),ps.take (Z3 ns (Xf ks i))++ [i]++ps.drop (Z3 ns (Xf ks i)))
theorem Gm {ks:List ByteArray}:∀{i:Nat} {ns:List ByteArray} {ps:List Nat},Y9 ks i=some (ns,ps)->ns.length=i/\ps.length=i:=by
 intro i
 induction i with
 |zero=>intro ns ps h;simp[Y9] at h;obtain ⟨rfl,rfl⟩:=h;exact ⟨rfl,rfl⟩
 | succ i ih =>
  intro ns ps h
  rw[Y9] at h
  split at h
  ·cases h
  ·rename_i ns0 ps0 h0
   obtain ⟨b,c⟩:=ih h0
   split at h
   ·cases h
   ·injection h with h
    injection h with e1 e2
    subst e1 e2
    have:=(Xlx (l:=ns0) (Xf ks i)).1
    simp
    omega
theorem Gn {ks:List ByteArray}:∀{i:Nat} {ns:List ByteArray} {ps:List Nat},Y9 ks i=some (ns,ps)->∀x∈ps,x<i:=by
 intro i
 induction i with
 |zero=>intro ns ps h;simp[Y9] at h;obtain ⟨rfl,rfl⟩:=h;simp
 | succ i ih =>
  intro ns ps h
  rw[Y9] at h
  split at h
  ·cases h
  ·rename_i ns0 ps0 h0
   split at h
   ·cases h
   ·injection h with h
    injection h with e1 e2
    subst e1 e2
    intro x b
    simp only[List.mem_append,List.mem_singleton] at b
    rcases b with (b|b)|b
    ·have:=ih h0 x (List.mem_of_mem_take b);omega
    ·omega
    ·have:=ih h0 x (List.mem_of_mem_drop b);omega
theorem Xr1 {ks:List ByteArray} {i j:Nat} (h:Y9 ks i=none) (hij:i<=j):Y9 ks j=none:=by
 obtain ⟨d,rfl⟩:∃d,j=i+d:=⟨j-i,by omega⟩
 clear hij
 induction d with
 |zero=>exact h
 |succ d ih=>rw[<-Nat.add_assoc,Y9,ih]
theorem Xd7 {ks:List ByteArray} {i j:Nat} {ns:List ByteArray} {ps:List Nat} (h:Y9 ks i=some (ns,ps)) (hj:Z3 ns (Xf ks i)=j) (hn:Y0 ns (Xf ks i)=false):Y9 ks (i+1)=some (ns.take j++ [Xf ks i]++ns.drop j,ps.take j++ [i]++ps.drop j):=by
 rw[Y9,h]
 simp only[hn,hj]
 rfl
theorem Xp0 {ks:List ByteArray} {i:Nat} {ns:List ByteArray} {ps:List Nat} (h:Y9 ks i=some (ns,ps)) (hn:Y0 ns (Xf ks i)=true):Y9 ks (i+1)=none:=by
 rw[Y9,h]
 simp only[hn]
 rfl
theorem Xs1 {l:List ByteArray} {key:ByteArray} {j:Nat} (hj:Z3 l key=j):Y0 l key=(decide (j<l.length)&&decide ((Xf l j).toList=key.toList)):=by unfold Y0;rw[hj]
theorem Xp1 {l:List ByteArray} {j:Nat} (hj:j<l.length):(l.map Value.string)[j]? =some (.string (Xf l j)):=by
 rw[List.getElem?_map,List.getElem?_eq_getElem hj]
 simp[Xf,hj]
def Xs2 (B:Nat) (w:World) (v:Value) (m:Nat) (cs:Nat->Value):Prop:=
 ∃a cap,v= .slice a m cap/\(∀i,i<m->∃a n c,cs i= .slice a n c)/\(0<m->∃b o,a=some ⟨b,o,none⟩/\b<B/\∀i,i<m->w.cell? ⟨b,o+i,none⟩=some (cs i))
theorem Jl {w:World} {base e s n x:Nat} {v:Value} {xs:List Value} (h:w.ownsRow base e s v n xs) (hx:v.ownBlock=some x):∃cap,v= .slice (some ⟨x,0,none⟩) n cap/\n<=cap:=by
 rcases h.2 with ⟨rfl,_⟩|⟨g,cap,cur,rfl,_,_,hnc,_⟩
 ·simp[Value.ownBlock] at hx
 ·simp[Value.ownBlock] at hx
  subst hx
  exact ⟨cap,rfl,hnc⟩
theorem Xgi:Tryz.prog.elem 72=9:=by kernel_rfl
theorem Xgj:Tryz.prog.elem 28=25:=by kernel_rfl
theorem Xs3 (w:World):(sizeOf 9).run Tryz.prog w= .ok 1 w:=by
 obtain ⟨i,b,d,c,f⟩:=info_parts Wj
 simp[sizeOf,typeInfo,b,c]
theorem Xp2:(Tryz.prog.info? 25).map (fun i=>(i.zero,i.size,i.bytes))=some (some (.slice none 0 0),1,24):=by kernel_rfl
theorem Xs4 (w:World):(sizeOf 25).run Tryz.prog w= .ok 1 w:=by
 obtain ⟨i,b,d,c,f⟩:=info_parts Xp2
 simp[sizeOf,typeInfo,b,c]
theorem Xlq (g j cap:Nat):sliced (some ⟨g,0,none⟩) 0 j cap 1= .slice (some ⟨g,0,none⟩) j cap:=by
 unfold sliced
 split
 ·rename_i h;subst h;simp
 ·simp[Addr.add]
theorem Xg2 (g j n cap:Nat):∃ad,sliced (some ⟨g,0,none⟩) j n cap 1= .slice (some ad) (n-j) (cap-j)/\(j<n->n<=cap->ad=⟨g,j,none⟩):=by
 unfold sliced
 split
 ·rename_i h;subst h;exact ⟨_,rfl,fun h1 h2=>by omega⟩
 ·exact ⟨_,rfl,fun _ _=>by simp[Addr.add];intro h;exact h.symm⟩
theorem X3u (g n cap j:Nat) (hj:j<=cap) (w:World):(Instr.slice 72 (.slice (some ⟨g,0,none⟩) n cap) none (some (.int .i64 (j:Int))) none).run Tryz.prog w= .ok (.slice (some ⟨g,0,none⟩) j cap) w:=by
 rw[run_slice_h (P:=Tryz.prog) (w:=w) 72 (some ⟨g,0,none⟩) n cap (by rw[Xgi];exact Tryz.underlying72) .i64 j (by omega) (by omega),Xgi,Xs3]
 simp only[Result.andThen,Int.toNat_natCast,Xlq]
theorem X3v (g n cap j:Nat) (hj:j<=cap) (w:World):(Instr.slice 28 (.slice (some ⟨g,0,none⟩) n cap) none (some (.int .i64 (j:Int))) none).run Tryz.prog w= .ok (.slice (some ⟨g,0,none⟩) j cap) w:=by
 rw[run_slice_h (P:=Tryz.prog) (w:=w) 28 (some ⟨g,0,none⟩) n cap (by rw[Xgj];exact Tryz.underlying28) .i64 j (by omega) (by omega),Xgj,Xs4]
 simp only[Result.andThen,Int.toNat_natCast,Xlq]
theorem Xlr (g n cap j:Nat) (hj:j<=n):∃ad,(∀w,(Instr.slice 72 (.slice (some ⟨g,0,none⟩) n cap) (some (.int .i64 (j:Int))) none none).run Tryz.prog w= .ok (.slice (some ad) (n-j) (cap-j)) w)/\(j<n->n<=cap->ad=⟨g,j,none⟩):=by
 obtain ⟨ad,b,c⟩:=Xg2 g j n cap
 refine ⟨ad,fun w=> ?_,c⟩
 rw[run_slice_l (P:=Tryz.prog) (w:=w) 72 (some ⟨g,0,none⟩) n cap (by rw[Xgi];exact Tryz.underlying72) .i64 j (by omega) (by omega),Xgi,Xs3]
 simp only[Result.andThen,Int.toNat_natCast,b]
theorem Xls (g n cap j:Nat) (hj:j<=n):∃ad,(∀w,(Instr.slice 28 (.slice (some ⟨g,0,none⟩) n cap) (some (.int .i64 (j:Int))) none none).run Tryz.prog w= .ok (.slice (some ad) (n-j) (cap-j)) w)/\(j<n->n<=cap->ad=⟨g,j,none⟩):=by
 obtain ⟨ad,b,c⟩:=Xg2 g j n cap
 refine ⟨ad,fun w=> ?_,c⟩
 rw[run_slice_l (P:=Tryz.prog) (w:=w) 28 (some ⟨g,0,none⟩) n cap (by rw[Xgj];exact Tryz.underlying28) .i64 j (by omega) (by omega),Xgj,Xs4]
 simp only[Result.andThen,Int.toNat_natCast,b]


def Xtc:Nat->VT->Prop
 |0,_=>False
 |f+1, .mk kind n s keys kids=>(1<=kind/\kind<=6)/\(-9223372036854775808<=n/\n<=9223372036854775807)/\s.size<=100000/\keys.length<=100000/\(∀i,i<keys.length->(Xf keys i).size<=100000)/\kids.length<=100000/\∀j,j<kids.length->Xtc f (Yg kids j)
theorem X2i (f sh:Nat) {l:List VT}:∀{m j:Nat},j<m->m<=l.length->Xj (ksT f sh l m) j=((sh+(Xx f sh l (j+1)).length:Nat):Int)-1:=by
 intro m
 induction m with
 |zero=>intro j h;omega
 | succ m ih =>
  intro j c d
  have b:=Xcz f sh l (k:=m) (by omega)
  rw[Qs f sh (by omega)]
  by_cases e:j<m
  ·have:=ih e (by omega)
   unfold Xj at this|-
   rw[List.getD_eq_getElem?_getD,List.getElem?_append_left (by omega),<-List.getD_eq_getElem?_getD]
   exact this
  ·obtain rfl:j=m:=by omega
   unfold Xj
   rw[List.getD_eq_getElem?_getD,List.getElem?_append_right (by omega),b,Nat.sub_self]
   rfl
theorem Xy6:∀{f:Nat} {t:VT},Xtc f t->∀sh,sh+(Yc f t sh).length<=1000000->∀j,j<(Yc f t sh).length->Fits (Xb (Yc f t sh) j):=by
 intro f
 induction f with
 |zero=>intro t h;exact h.elim
 | succ f ih =>
  intro t h sh o
  obtain ⟨b,n,s,keys,kids⟩:=t
  obtain ⟨B,C,D,F,p,G,q⟩:=h
  rw[Qw] at o|-
  rw[List.length_append,List.length_cons,List.length_nil] at o|-
  have y:=Xk7 f sh kids Fits kids.length (Nat.le_refl _)
  have c:∀j,j<(Xx f sh kids kids.length).length->Fits (Xb (Xx f sh kids kids.length) j):=y.2 (fun i hi=>by
   refine ih (q i hi) _ ?_
   have d:=Xbc f sh kids (i+1)
   rw[Zg f sh hi,List.length_append] at d
   omega)
  intro j J
  by_cases e:j<(Xx f sh kids kids.length).length
  ·rw[Z0 e];exact c j e
  ·obtain rfl:j=(Xx f sh kids kids.length).length:=by omega
   rw[Zy (Nat.le_refl _),Nat.sub_self]
   have z:=Xcz f sh kids (Nat.le_refl _)
   refine ⟨by show keys.length<=_;omega,fun i hi=>by have:=p i hi;show (Xf keys i).size<=_;omega,by show (ksT f sh kids kids.length).length<=_;omega,fun i hi=> ?_,by show s.size<=_;omega,by show _<=b;omega,by show b<=_;omega,by show _<=n;omega,by show n<=_;omega⟩
   have g:i<kids.length:=by have:i<(ksT f sh kids kids.length).length:=hi;omega
   have:=X2i f sh (l:=kids) g (Nat.le_refl _)
   have d:=Xbc f sh kids (i+1)
   show-9223372036854775808<=Xj (ksT f sh kids kids.length) i/\Xj (ksT f sh kids kids.length) i<=9223372036854775807
   rw[this]
   omega


theorem X4o {F:VT->Nat}:∀{l:List VT},(∀j,j<l.length->1<=F (Yg l j))->l.length<=(l.map F).sum/\∀j,j<l.length->F (Yg l j)<=(l.map F).sum:=by
 intro l
 induction l with
 |nil=>intro _;exact ⟨by simp,fun j hj=>absurd hj (by simp)⟩
 | cons x l ih =>
  intro h
  have c:1<=F x:=h 0 (by simp)
  obtain ⟨d,b⟩:=ih (fun j hj=>h (j+1) (by simp;omega))
  rw[List.map_cons,List.sum_cons,List.length_cons]
  refine ⟨by omega,fun j hj=> ?_⟩
  cases j with
  |zero=>show F x<=_;omega
  | succ j =>
   have:F (Yg l j)<=(l.map F).sum:=b j (by simp at hj;omega)
   show F (Yg l j)<=_
   omega
theorem X05:∀{f:Nat} {t:VT},goodT f t->(Yc f t 0).length<=100000->Xtc f t:=by
 intro f
 induction f with
 |zero=>intro t h;exact h.elim
 | succ f ih =>
  intro t h g
  obtain ⟨d,n,s,keys,kids⟩:=t
  rw[X30] at g
  obtain ⟨q,o⟩:=X4o (F:=fun t=>(Yc f t 0).length) (l:=kids) (fun j hj=>Xhh (h.2 j hj).full 0)
  have c:kids.length<=100000:=by omega
  have p:ByteArray.empty.size=0:=rfl
  have b:∀j,j<kids.length->Xtc f (Yg kids j):=fun j hj=>ih (h.2 j hj) (by have:=o j hj;omega)
  rcases Xum h.1 with ⟨a1,a2,a3,a4,_⟩|⟨a1,a2,a3,a4,_⟩|⟨a1,a2,a3,a4,_⟩|⟨a1,a2,a3,a4,_⟩|⟨a1,a2,a3,a4⟩|⟨a1,a2,a3,a4,a5⟩
  ·exact ⟨by omega,by omega,by rw[a3];omega,by rw[a4];simp,fun i hi=>by rw[a4] at hi;simp at hi,c,b⟩
  ·exact ⟨by omega,by omega,by rw[a3];omega,by rw[a4];simp,fun i hi=>by rw[a4] at hi;simp at hi,c,b⟩
  ·exact ⟨by omega,by omega,by rw[a3];omega,by rw[a4];simp,fun i hi=>by rw[a4] at hi;simp at hi,c,b⟩
  ·exact ⟨by omega,by omega,by omega,by rw[a4];simp,fun i hi=>by rw[a4] at hi;simp at hi,c,b⟩
  ·exact ⟨by omega,by omega,by rw[a3];omega,by rw[a4];simp,fun i hi=>by rw[a4] at hi;simp at hi,c,b⟩
  ·refine ⟨by omega,by omega,by rw[a3];omega,by omega,fun i hi=> ?_,c,b⟩
   have:=(Xss a5 hi).1
   unfold Z6 at this
   simp only[Bool.and_eq_true,decide_eq_true_eq] at this
   omega
theorem Xxg {f:Nat} {t:VT} (h:goodT f t) (hl:(Yc f t 0).length<=100000):∀j,j<(Yc f t 0).length->Fits (Xb (Yc f t 0) j):=Xy6 (X05 h hl) 0 (by omega)


theorem Xus (s:ByteArray) (w:World):Calls Tryz.prog 207 #[.string s] w fun e w'=>e= .returned (.bool false)/\w'=w:=by
 have b:(s.toList==s.toList)=true:=by simp
 go_enter Tryz.func207,Tryz.ntmps207
 go_wp2_with fail
 go_ret
 exact ⟨by simp,rfl⟩
theorem Xxu (s:ByteArray) (w:World):Calls Tryz.prog 197 #[.string s] w fun e w'=>e= .returned (.bool false)/\w'=w:=by
 have b:(s.toList==s.toList)=true:=by simp
 go_enter Tryz.func197,Tryz.ntmps197
 go_wp2_with fail
 go_ret
 exact ⟨by simp,rfl⟩
theorem Xrs (a b:ByteArray) (w:World):Calls Tryz.prog 196 #[.string a, .string b] w fun e w'=>e= .returned (.bool (Y4 a b))/\w'=w:=by
 go_enter Tryz.func196,Tryz.ntmps196
 go_wp2_with (go_at_call 207;refine (Xus _ _).mono ?_;rintro e w' ⟨rfl,rfl⟩)
 go_ret
 exact ⟨rfl,rfl⟩
set_option maxRecDepth 100000 in
theorem Xd4 (B:Nat) (v:Value) (l:List ByteArray) (key:ByteArray) (w:World) (h:StrsAt B w v l) (hr:Xh2 l) (hl:l.length<=1048576):
  Calls Tryz.prog 183 #[v, .string key] w fun e w'=>e= .returned (.tuple #[.int .i64 (Z3 l key:Nat), .bool (Y0 l key)])/\w'=w:=by
 obtain ⟨_,_,a,P,rfl,F⟩:=h
 have G:=Xa F
 have R:=Xa hr
 clear F hr
 go_enter Tryz.func183,Tryz.ntmps183
 go_wp2_with fail
 go_loop [7,8,9] (fun p q _=>∃i j:Nat,i<=j/\j<=l.length/\p= .int .i64 i/\q= .int .i64 j/\Hid (∀t,t<i->Y4 (Xf l t) key=true)/\Hid (j<l.length->Y4 (Xf l j) key=false)) (fun p q _=>(intOf q).toNat-(intOf p).toNat)
 case atStart=>exact ⟨0,l.length,Nat.zero_le _,Nat.le_refl _,rfl,rfl,fun t ht=>by omega,fun h=>absurd h (by omega)⟩
 case round=>
  obtain ⟨i,j,S,f,rfl,rfl,J,L⟩:=hrel
  by_cases hlt:i<j
  ·obtain ⟨b,o,rfl,s,c⟩:=G.out (by omega)
   obtain ⟨h,T⟩:∃h:Nat,h=(i+j)/2:=⟨_,rfl⟩
   have V:i<=h:=by omega
   have Y:h<j:=by omega
   have y:=c h (by omega)
   have Z:((i:Int)+(j:Int))/2=(h:Int):=by omega
   have z:h<l.length:=by omega
   clear c T
   go_wp2_with fail
   refine (Xrs _ _ _).mono ?_
   rintro e w1 ⟨rfl,rfl⟩
   cases hle:Y4 (Xf l h) key
   ·have C:Hid (h<l.length->Y4 (Xf l h) key=false):=fun _=>hle
    go_wp2_with fail
    go_round
    case rel=>exact ⟨i,h,V,by omega,rfl,rfl,J,C⟩
    case measure=>simp[intOf];omega
   ·have D:Hid (∀t,t<h+1->Y4 (Xf l t) key=true):=fun t ht=>by
     by_cases e:t=h
     ·subst e;exact hle
     ·exact Xba (R.out t h (by omega) z) hle
    go_wp2_with fail
    go_round
    case rel=>exact ⟨h+1,j,by omega,f,by go_num,rfl,D,L⟩
    case measure=>simp[intOf];omega
  ·obtain rfl:i=j:=by omega
   have d:=Xa (Xgl f J.out L.out)
   by_cases hil:i<l.length
   ·obtain ⟨b,o,rfl,s,c⟩:=G.out (by omega)
    have y:=c i hil
    by_cases he:(Xf l i).toList=key.toList
    ·have g:Hid (Y0 l key=true):=by unfold Hid Y0;rw[d.out];simp[hil,he]
     have X:((Xf l i).toList==key.toList)=true:=by simp[he]
     clear c
     go_wp2_with fail
     go_ret2
     exact ⟨by rw[g.out,d.out];rfl,rfl⟩
    ·have g:Hid (Y0 l key=false):=by unfold Hid Y0;rw[d.out];simp[hil,he]
     have X:((Xf l i).toList==key.toList)=false:=by simpa using he
     clear c
     go_wp2_with (go_at_call 197;refine (Xxu _ _).mono ?_;rintro e w' ⟨rfl,rfl⟩)
     go_ret2
     exact ⟨by rw[g.out,d.out];rfl,rfl⟩
   ·have g:Hid (Y0 l key=false):=by unfold Hid Y0;rw[d.out];simp[hil]
    have M:¬((i:Int)<(l.length:Int)):=by omega
    go_wp2_with fail
    go_ret2
    exact ⟨by rw[g.out,d.out];rfl,rfl⟩


theorem Kw (n:Int) (w:World):Calls Tryz.prog 98 #[.int .i64 n] w fun e w'=>∃r KV IV,e= .returned r/\Nest w.heap.size w' r (Xr 3 n ByteArray.empty) KV IV/\Below w.heap.size w w':=by
 go_enter Tryz.func98,Tryz.ntmps98
 go_wp2_with fail
 go_ret
 exact ⟨_,_,_,rfl,Vu w 3 n _,(Below.refl _ _).alloc (Nat.le_refl _) _⟩
set_option maxRecDepth 100000 in
theorem Xoh (B:Nat) (v:Value) (vs:List VN) (w:World) (h:NodesAt B w v vs) (hB:B<=w.heap.size) (hok:okB vs=true):
  Calls Tryz.prog 78 #[v] w fun e w'=>∃r base KV IV,e= .returned (.tuple #[r, .int .i64 (Xio (Zm (Xd vs)))])/\w.heap.size<=base/\Nest base w' r (Xmq (Zm (Xd vs))) KV IV/\Below w.heap.size w w':=by
 have g:=Xa (Jw hok)
 obtain ⟨J,av,ba,rfl,q⟩:=h
 obtain ⟨V,_,_,_⟩:=Xm hok
 obtain ⟨b0,o0,rfl,bb,X⟩:=q (by omega)
 obtain ⟨ka,ki,b⟩:=X (vs.length-1) (by omega)
 obtain ⟨x,T⟩:∃x,Xd vs=x:=⟨_,rfl⟩
 have L:Xb vs (vs.length-1)=x:=T
 rw[L] at b
 rw[T] at g|-
 have HK:Hid (Zm x=Zm x):=rfl
 obtain ⟨M,Y⟩:∃M,vs.length=M:=⟨_,rfl⟩
 rw[Y] at b V J|-
 obtain ⟨_,_,D,F,eK,_⟩:=b.inn.keys
 obtain ⟨_,_,z,C,eI,_⟩:=b.inn.kids
 subst eK eI
 have c0:=b.c0
 have c1:=b.c1
 have c2:=b.c2
 have c3:=b.c3
 have c4:=b.c4
 have p0:((M:Int)-1).toNat=M-1:=by omega
 obtain ⟨bc,bd⟩:=V
 clear q X b T L Y hok HK
 obtain ⟨W,G⟩:∃W,w.alloc (.cells #[.int .i64 x.kind, .int .i64 x.n, .string x.s, .slice D x.keys.length F, .slice z x.kids.length C] 75)=W:=⟨_,rfl⟩
 have Z:W.cell? ⟨w.heap.size,0,none⟩=some (.int .i64 x.kind):=by rw[<-G];simp
 have r1:W.cell? ⟨w.heap.size,1,none⟩=some (.int .i64 x.n):=by rw[<-G];simp
 have r2:W.cell? ⟨w.heap.size,2,none⟩=some (.string x.s):=by rw[<-G];simp
 have r4:W.cell? ⟨w.heap.size,4,none⟩=some (.slice z x.kids.length C):=by rw[<-G];simp
 have rz:w.heap.size<W.heap.size:=by rw[<-G];simp
 have HW:=Xa G
 have be:Hid (Below w.heap.size w W):=by rw[Hid,<-G];exact (Below.refl _ _).alloc (Nat.le_refl _) _
 clear G
 have c:=Xa (P.intro Z (P.intro r1 (P.intro r2 r4)))
 clear Z r1 r2 r4
 have o:Hid (w.alloc (.cells #[.int .i64 x.kind, .int .i64 x.n, .string x.s, .slice D x.keys.length F, .slice z x.kids.length C] 75)=W):=HW.out
 rcases g.out with k|k|⟨k,n1,n2⟩|⟨k,n1⟩|⟨k,n1⟩|⟨k,n1⟩
 ·have p:Hid (Zm x=some (0)):=by unfold Hid Zm;simp[k]
  rw[p.out]
  rw[k] at c0 o c
  clear k g
  have d:w.heap.size<=(w.alloc (.cells #[.int .i64 1, .int .i64 x.n, .string x.s, .slice D x.keys.length F, .slice z x.kids.length C] 75)).heap.size:=by simp
  go_enter Tryz.func78,Tryz.ntmps78
  go_wp2_with fail
  refine (Kw (0) _).mono ?_
  rintro e t ⟨r,KV,IV,rfl,b,j⟩
  have y:=Xa b
  obtain ⟨R,S,l⟩:=Xg b.row
  simp only[Xr,List.length_cons,List.length_nil] at l
  subst l
  have f:Hid (Below w.heap.size w t):=((Below.refl _ _).alloc (Nat.le_refl _) _).trans (j.mono (by simp))
  clear b j
  go_wp2_with fail
  go_ret2
  exact ⟨_,_,KV,IV,rfl,d,y.out,f.out⟩
 ·have p:Hid (Zm x=none):=by unfold Hid Zm;simp[k]
  rw[p.out]
  rw[k] at c0 o c
  clear k g
  go_enter Tryz.func78,Tryz.ntmps78
  go_wp2_with fail
  go_ret2
  exact ⟨_,w.heap.size,fun _=>undef,fun _=>undef,rfl,Nat.le_refl _,Nest.nil _ _ _ _,(Below.refl _ _).alloc (Nat.le_refl _) _⟩
 ·by_cases hs:x.n< -x.n
  ·have p:Hid (Zm x=some (-x.n)):=by unfold Hid Zm;simp[k];omega
   rw[p.out]
   rw[k] at c0 o c
   clear k g
   have d:w.heap.size<=(w.alloc (.cells #[.int .i64 3, .int .i64 x.n, .string x.s, .slice D x.keys.length F, .slice z x.kids.length C] 75)).heap.size:=by simp
   go_enter Tryz.func78,Tryz.ntmps78
   go_wp2_with fail
   refine (Kw (-x.n) _).mono ?_
   rintro e t ⟨r,KV,IV,rfl,b,j⟩
   have y:=Xa b
   obtain ⟨R,S,l⟩:=Xg b.row
   simp only[Xr,List.length_cons,List.length_nil] at l
   subst l
   have f:Hid (Below w.heap.size w t):=((Below.refl _ _).alloc (Nat.le_refl _) _).trans (j.mono (by simp))
   clear b j
   go_wp2_with fail
   go_ret2
   exact ⟨_,_,KV,IV,rfl,d,y.out,f.out⟩
  ·have p:Hid (Zm x=some (x.n)):=by unfold Hid Zm;simp[k];omega
   rw[p.out]
   rw[k] at c0 o c
   clear k g
   have d:w.heap.size<=(w.alloc (.cells #[.int .i64 3, .int .i64 x.n, .string x.s, .slice D x.keys.length F, .slice z x.kids.length C] 75)).heap.size:=by simp
   go_enter Tryz.func78,Tryz.ntmps78
   go_wp2_with fail
   refine (Kw (x.n) _).mono ?_
   rintro e t ⟨r,KV,IV,rfl,b,j⟩
   have y:=Xa b
   obtain ⟨R,S,l⟩:=Xg b.row
   simp only[Xr,List.length_cons,List.length_nil] at l
   subst l
   have f:Hid (Below w.heap.size w t):=((Below.refl _ _).alloc (Nat.le_refl _) _).trans (j.mono (by simp))
   clear b j
   go_wp2_with fail
   go_ret2
   exact ⟨_,_,KV,IV,rfl,d,y.out,f.out⟩
 ·have p:Hid (Zm x=some ((x.s.size:Int))):=by unfold Hid Zm;simp[k]
  rw[p.out]
  rw[k] at c0 o c
  clear k g
  have d:w.heap.size<=(w.alloc (.cells #[.int .i64 4, .int .i64 x.n, .string x.s, .slice D x.keys.length F, .slice z x.kids.length C] 75)).heap.size:=by simp
  go_enter Tryz.func78,Tryz.ntmps78
  go_wp2_with fail
  refine (Kw ((x.s.size:Int)) _).mono ?_
  rintro e t ⟨r,KV,IV,rfl,b,j⟩
  have y:=Xa b
  obtain ⟨R,S,l⟩:=Xg b.row
  simp only[Xr,List.length_cons,List.length_nil] at l
  subst l
  have f:Hid (Below w.heap.size w t):=((Below.refl _ _).alloc (Nat.le_refl _) _).trans (j.mono (by simp))
  clear b j
  go_wp2_with fail
  go_ret2
  exact ⟨_,_,KV,IV,rfl,d,y.out,f.out⟩
 ·have p:Hid (Zm x=some ((x.kids.length:Int))):=by unfold Hid Zm;simp[k]
  rw[p.out]
  rw[k] at c0 o c
  clear k g
  have d:w.heap.size<=(w.alloc (.cells #[.int .i64 5, .int .i64 x.n, .string x.s, .slice D x.keys.length F, .slice z x.kids.length C] 75)).heap.size:=by simp
  go_enter Tryz.func78,Tryz.ntmps78
  go_wp2_with fail
  refine (Kw ((x.kids.length:Int)) _).mono ?_
  rintro e t ⟨r,KV,IV,rfl,b,j⟩
  have y:=Xa b
  obtain ⟨R,S,l⟩:=Xg b.row
  simp only[Xr,List.length_cons,List.length_nil] at l
  subst l
  have f:Hid (Below w.heap.size w t):=((Below.refl _ _).alloc (Nat.le_refl _) _).trans (j.mono (by simp))
  clear b j
  go_wp2_with fail
  go_ret2
  exact ⟨_,_,KV,IV,rfl,d,y.out,f.out⟩
 ·have p:Hid (Zm x=some ((x.kids.length:Int))):=by unfold Hid Zm;simp[k]
  rw[p.out]
  rw[k] at c0 o c
  clear k g
  have d:w.heap.size<=(w.alloc (.cells #[.int .i64 6, .int .i64 x.n, .string x.s, .slice D x.keys.length F, .slice z x.kids.length C] 75)).heap.size:=by simp
  go_enter Tryz.func78,Tryz.ntmps78
  go_wp2_with fail
  refine (Kw ((x.kids.length:Int)) _).mono ?_
  rintro e t ⟨r,KV,IV,rfl,b,j⟩
  have y:=Xa b
  obtain ⟨R,S,l⟩:=Xg b.row
  simp only[Xr,List.length_cons,List.length_nil] at l
  subst l
  have f:Hid (Below w.heap.size w t):=((Below.refl _ _).alloc (Nat.le_refl _) _).trans (j.mono (by simp))
  clear b j
  go_wp2_with fail
  go_ret2
  exact ⟨_,_,KV,IV,rfl,d,y.out,f.out⟩


theorem Xdw (l:List ByteArray):∀u∈l.map Value.string,u.oneCell'=true:=by
 intro u b
 obtain ⟨x,_,rfl⟩:=List.mem_map.1 b
 rfl
def X0j (base:Nat) (w w':World) (cs:Nat->Value) (e:Ending):Option (List ByteArray×List Nat)->Prop
 |none=>e= .returned (.tuple #[.slice none 0 0, .slice none 0 0, .bool false])
 |some (ns,ps)=>∃nv lv,e= .returned (.tuple #[nv,lv, .bool true])/\w'.ownsRow base 9 1 nv ns.length (ns.map .string)/\w'.ownsRow base 25 1 lv ps.length (ps.map cs)
set_option maxRecDepth 100000 in
theorem Xob (B : Nat) (kv u : Value) (ks : List ByteArray) (cs : Nat -> Value) (w : World) (h : StrsAt B w kv ks) (hu : Xs2 B w u ks.length cs) (hB : B <= w.heap.size) (hm : ks.length <= 1048576) :
  Calls Tryz.prog 102 #[kv,u] w fun e w'=>X0j w.heap.size w w' cs e (Y9 ks ks.length)/\Below w.heap.size w w':=by
 obtain ⟨_,_,ak,ck,rfl,dc⟩:=h
 obtain ⟨au,cu,rfl,fi,ba⟩:=hu
 have fb:=Xa dc
 have dd:=Xa ba
 have c6:=Xa fi
 obtain ⟨i1,bf,R,bg,bh⟩:=info_parts Wj
 obtain ⟨i2,bi,S,bj,bl⟩:=info_parts Xp2
 obtain ⟨m,fj⟩:∃m,ks.length=m:=⟨_,rfl⟩
 rw[fj] at hm fb dd c6|-
 have fk:Hid (((w.alloc (.cells #[] 9)).alloc (.cells #[] 25)).ownsRow w.heap.size 9 1 (.slice (some ⟨w.heap.size,0,none⟩) 0 0) 0 (([]:List ByteArray).map .string)):=(World.ownsRow_lit (base:=w.heap.size) w #[] 0 (Nat.le_refl _) (by simp[maxLen]) rfl).alloc _
 have fl:Hid (((w.alloc (.cells #[] 9)).alloc (.cells #[] 25)).ownsRow w.heap.size 25 1 (.slice (some ⟨w.heap.size+1,0,none⟩) 0 0) 0 (([]:List Nat).map cs)):=by
  have:=World.ownsRow_lit (base:=w.heap.size) (e:=25) (size:=1) (w.alloc (.cells #[] 9)) #[] 0 (by simp) (by simp[maxLen]) rfl
  simpa [Hid] using this
 have c7:Hid (∀l:List Nat,(∀i∈l,i<m)->∀u∈l.map cs,u.oneCell'=true):=by
  intro l hl u hu
  obtain ⟨i,d,rfl⟩:=List.mem_map.1 hu
  obtain ⟨a,n,c,e⟩:=c6.out i (hl i d)
  rw[e];rfl
 go_enter Tryz.func102,Tryz.ntmps102
 go_wp2_with fail
 go_loopw [7,8,9] (fun nv lv i wr=>∃(k D P cn cl:Nat) (q:List ByteArray) (T:List Nat),k<=m/\i= .int .i64 k/\nv= .slice (some ⟨D,0,none⟩) k cn/\lv= .slice (some ⟨P,0,none⟩) k cl/\k<=cn/\k<=cl/\D<wr.heap.size/\P<wr.heap.size/\Y9 ks k=some (q,T)/\wr.ownsRow w.heap.size 9 1 (.slice (some ⟨D,0,none⟩) k cn) k (q.map .string)/\wr.ownsRow w.heap.size 25 1 (.slice (some ⟨P,0,none⟩) k cl) k (T.map cs)/\Below w.heap.size w wr) (fun _ _ i _=>m-(intOf i).toNat)
 case atStart=>exact ⟨0,w.heap.size,w.heap.size+1,0,0,[],[],Nat.zero_le _,rfl,rfl,rfl,Nat.le_refl _,Nat.le_refl _,by simp;omega,by simp,rfl,fk.out,fl.out,((Below.refl _ _).alloc (Nat.le_refl _) _).alloc (by simp) _⟩
 case round =>
  obtain ⟨k,D,P,cn,cl,q,T,hk,rfl,rfl,rfl,fc,fd,f0,f1,de,fm,fn,bm⟩:=hrel
  have c8:=Xa de
  have HN:=Xa fm
  have HL:=Xa fn
  have f:=Xa (Gm de)
  have c9:=Xa (Gn de)
  have zs:=bm.size
  obtain ⟨W0,fo⟩:∃W0,W0=wr:=⟨_,rfl⟩
  subst fo
  by_cases hlt:k<m
  ·obtain ⟨bk,ok,rfl,f2,dc⟩:=fb.out (by omega)
   have da:=(Xc (o:=ok+k) bm (show bk<w.heap.size by omega)).trans (dc k hlt)
   obtain ⟨key,db⟩:∃key,Xf ks k=key:=⟨_,rfl⟩
   have F:=Xa db
   rw[db] at da
   go_wp2_with fail
   go_loopw [10] (fun a wq=>∃(j:Nat),j<=k/\a= .int .i64 j/\Hid (∀t,t<j->Y4 (Xf q t) key=true)/\Below W0.heap.size W0 wq) (fun a _=>k-(intOf a).toNat)
   case atStart=>exact ⟨0,Nat.zero_le _,rfl,fun t ht=>by omega,Below.refl _ _⟩
   case round =>
    obtain ⟨j,bn,rfl,df,bo⟩:=hrel
    have f3:=bo.size
    have fp:=(Xc bo (by omega)).trans da
    by_cases hj:j<k
    ·have fq:wr.cell? ⟨D,j,none⟩=some (.string (Xf q j)):=by
      rw[Xc bo (by omega),HN.out.cellAt j (by omega)]
      exact Xp1 (by rw[f.out.1];exact hj)
     cases hle:Y4 (Xf q j) key
     ·have fe:Op.bytesLess (Xf q j).toList key.toList=false:=hle
      have bp:Hid (Z3 q key=j):=Xgl (by rw[f.out.1];exact bn) df.out (fun _=>hle)
      have ff:=Xa (Xs1 bp.out)
      go_wp2_with fail
      go_quiet (fail)
      have G:=below_drewN bo nq
      have fr:(wr.drewN nq).cell? ⟨D,j,none⟩=some (.string (Xf q j)):=(Xc (below_drewN (Below.refl wr.heap.size wr) nq) (by omega)).trans fq
      have fs:(wr.drewN nq).cell? ⟨bk,ok+k,none⟩=some (.string key):=(Xc (below_drewN (Below.refl wr.heap.size wr) nq) (by omega)).trans fp
      generalize wr.drewN nq=W1 at G fr fs|-
      by_cases he:(Xf q j).toList=key.toList
      ·have hz:((Xf q j).toList==key.toList)=true:=by simp[he]
       have bq:Hid (Y0 q key=true):=by rw[Hid,ff.out,f.out.1];simp[hj,he]
       go_wp2_with fail
       go_quiet (fail)
       go_wp2_with fail
       go_ret3
       exact ⟨by rw[Xr1 (Xp0 c8.out (by rw[F.out];exact bq.out)) (show k+1<=m by omega)];rfl,bm.trans ((below_drewN G nq).mono zs)⟩
      ·have hz:((Xf q j).toList==key.toList)=false:=by simpa using he
       have bq:Hid (Y0 q key=false):=by rw[Hid,ff.out];simp[he]
       go_wp2_with fail
       go_quiet (fail)
       have s:=below_drewN G nq
       generalize W1.drewN nq=WQ at s|-
       clear nq G
       -- the key and the row are put in their place
       have zq:=s.size
       have zw:w.heap.size<=WQ.heap.size:=Nat.le_trans zs zq
       have Y:D<WQ.heap.size:=by omega
       have Z:P<WQ.heap.size:=by omega
       have br:=Xa (Z1 HN.out s (fun y hy=>(HN.out.lt y hy).2))
       have bs:=Xa (Z1 HL.out s (fun y hy=>(HL.out.lt y hy).2))
       have bt:=Xa (bm.trans (s.mono zs))
       obtain ⟨bu,ou,rfl,ft,ba⟩:=dd.out (by omega)
       have bv:=Xa ((Xc bt.out (show bu<w.heap.size by omega)).trans (ba k hlt))
       obtain ⟨ax,nx,cx,bb⟩:=c6.out k hlt
       have dg:=Xa bb
       rw[bb] at bv
       have dh:Hid (WQ.cell? ⟨bk,ok+k,none⟩=some (.string key)):=(Xc s (by omega)).trans da
       obtain ⟨bw,fu,bx⟩:=Xlr D k cn j bn
       obtain ⟨bz,fv,b0⟩:=Xls P k cl j bn
       have f4:=X3u D k cn j (by omega)
       have f5:=X3v P k cl j (by omega)
       have di:=Xa bx
       have dj:=Xa b0
       have dk:Hid (Y9 ks (k+1)=some (q.take j++ [Xf ks k]++q.drop j,T.take j++ [k]++T.drop j)):=Xd7 c8.out (by rw[F.out];exact bp.out) (by rw[F.out];exact bq.out)
       have f6:k<=1048576:=by omega
       have b1:j+1+(k-j)=k+1:=by omega
       have b2:=Xa b1
       clear ba bb bx b0 b1 s
       have dl:Hid (0<j->∃ad',some (⟨D,0,none⟩:Addr)=some ad'/\∀i x,((q.take j).map Value.string)[i]? =some x->(WQ.alloc (.cells #[] 9)).cell? (ad'.add i)=some x):=by
        intro _
        refine ⟨_,rfl,fun i x d=> ?_⟩
        have J:i<j:=by have:=(List.getElem?_eq_some_iff.1 d).1;simp at this;omega
        have V:(⟨D,0,none⟩:Addr).add i=⟨D,i,none⟩:=by unfold Addr.add;split<;>simp_all
        rw[V,Xc ((Below.refl WQ.heap.size WQ).alloc (Nat.le_refl _) _) Y,br.out.cellAt i (by omega)]
        rw[List.map_take,List.getElem?_take] at d
        simpa [J] using d
       have dm:Hid ((WQ.alloc (.cells #[] 9)).ownsRow WQ.heap.size 9 1 (.slice (some ⟨WQ.heap.size,0,none⟩) 0 0) 0 []):=by
        have:=World.ownsRow_lit (base:=WQ.heap.size) (e:=9) (size:=1) WQ #[] 0 (Nat.le_refl _) (by simp[maxLen]) rfl
        simpa [Hid] using this
       go_wp2_with (at_builtin;refine X6 rfl _ _ 72 rfl WQ.heap.size 9 i1 (.string ByteArray.empty) 1 16 Tryz.underlying72 bf R bg bh rfl (by decide) _ 0 [] rfl dm.out (some ⟨D,0,none⟩) j cn ((q.take j).map Value.string) rfl ?c1 dl.out ?c2 ?c3 ?c4 ?c5 ?_)
       case c1=>simp[f.out.1];omega
       case c2=>exact Xdw _
       case c3=>unfold maxLen;omega
       case c4=>omega
       case c5=>simp
       intro va wa z dp b3
       (try simp only[Nat.zero_add,List.nil_append] at z)
       have bc:Below WQ.heap.size WQ wa:=((Below.refl WQ.heap.size WQ).alloc (Nat.le_refl _) _).grown dp (by simp) (fun r hr=>by simp[Value.ownBlock] at hr;omega)
       have za:=bc.size
       have fw:wa.cell? ⟨bk,ok+k,none⟩=some (.string key):=(Xc bc (by omega)).trans dh.out
       have dq:=Xa bc
       have b4:=Xa z
       obtain ⟨xa,dr⟩:∃xa,va.ownBlock=some xa:=by
        rcases b3 with e|e
        ·exact ⟨_,e⟩
        ·exact ⟨_,e⟩
       obtain ⟨ca,V,_⟩:=Jl z dr
       subst V
       go_wp2_with (at_builtin;refine wpList_append_own_at _ rfl _ _ 72 rfl WQ.heap.size 9 i1 (.string ByteArray.empty) 1 16 Tryz.underlying72 bf R bg bh rfl (by decide) _ _ _ rfl (b4.out.alloc _) ⟨wa.heap.size,0,none⟩ 1 1 [.string key] rfl rfl ?c1 ?c2 ?c3 ?c4 ?c5 ?_)
       case c1=>exact cell_one_new _ _ _
       case c2=>intro u hu;simp at hu;subst hu;rfl
       case c3=>unfold maxLen;omega
       case c4=>omega
       case c5=>simp;omega
       intro vb wb L ds fx b5
       have b6:Below WQ.heap.size WQ wb:=(dq.out.alloc za _).grown ds (by simp;omega) (fun r hr=>(b4.out.lt r hr).1)
       have zb:=b6.size
       have b7:=Xa b6
       have b8:=Xa L
       obtain ⟨xb,dt⟩:∃xb,vb.ownBlock=some xb:=by
        rcases b5 with e|e
        ·exact ⟨_,e⟩
        ·exact ⟨_,e⟩
       obtain ⟨cb,eb,_⟩:=Jl L dt
       subst eb
       have du:Hid (0<k-j->∃ad',some bw=some ad'/\∀i x,((q.drop j).map Value.string)[i]? =some x->wb.cell? (ad'.add i)=some x):=by
        intro hp
        refine ⟨_,rfl,fun i x d=> ?_⟩
        have J:i<k-j:=by have:=(List.getElem?_eq_some_iff.1 d).1;simp[f.out.1] at this;omega
        rw[di.out (by omega) fc]
        have V:(⟨D,j,none⟩:Addr).add i=⟨D,j+i,none⟩:=by unfold Addr.add;split<;>simp_all
        rw[V,Xc b7.out Y,br.out.cellAt (j+i) (by omega)]
        rw[List.map_drop,List.getElem?_drop] at d
        exact d
       go_wp2_with (at_builtin;refine X6 rfl _ _ 72 rfl WQ.heap.size 9 i1 (.string ByteArray.empty) 1 16 Tryz.underlying72 bf R bg bh rfl (by decide) _ (j+1) _ rfl b8.out (some bw) (k-j) (cn-j) ((q.drop j).map Value.string) rfl ?c1 du.out ?c2 ?c3 ?c4 ?c5 ?_)
       case c1=>simp[f.out.1]
       case c2=>exact Xdw _
       case c3=>unfold maxLen;omega
       case c4=>omega
       case c5=>exact zb
       intro vc b g dv b9
       have cg:Below WQ.heap.size WQ b:=b7.out.grown dv zb (fun r hr=>(b8.out.lt r hr).1)
       have zc:=cg.size
       have X:=Xa cg
       rw[b2.out] at g
       have ch:Hid (b.ownsRow WQ.heap.size 9 1 vc (k+1) ((q.take j++ [key]++q.drop j).map Value.string)):=by rw[Hid];simpa [List.map_append,List.map_take,List.map_drop] using g
       obtain ⟨xc,dw⟩:∃xc,vc.ownBlock=some xc:=by
        rcases b9 with e|e
        ·exact ⟨_,e⟩
        ·exact ⟨_,e⟩
       obtain ⟨cc,ec,dx⟩:=Jl g dw
       subst ec
       have fg:xc<b.heap.size:=(g.lt xc rfl).2
       have dy:Hid ((b.alloc (.cells #[] 25)).ownsRow b.heap.size 25 1 (.slice (some ⟨b.heap.size,0,none⟩) 0 0) 0 []):=by
        have:=World.ownsRow_lit (base:=b.heap.size) (e:=25) (size:=1) b #[] 0 (Nat.le_refl _) (by simp[maxLen]) rfl
        simpa [Hid] using this
       have dz:Hid (0<j->∃ad',some (⟨P,0,none⟩:Addr)=some ad'/\∀i x,((T.take j).map cs)[i]? =some x->(b.alloc (.cells #[] 25)).cell? (ad'.add i)=some x):=by
        intro _
        refine ⟨_,rfl,fun i x d=> ?_⟩
        have J:i<j:=by have:=(List.getElem?_eq_some_iff.1 d).1;simp at this;omega
        have V:(⟨P,0,none⟩:Addr).add i=⟨P,i,none⟩:=by unfold Addr.add;split<;>simp_all
        rw[V,Xc (X.out.alloc zc _) Z,bs.out.cellAt i (by omega)]
        rw[List.map_take,List.getElem?_take] at d
        simpa [J] using d
       go_wp2_with (at_builtin;refine X6 rfl _ _ 28 rfl b.heap.size 25 i2 (.slice none 0 0) 1 24 Tryz.underlying28 bi S bj bl rfl (by decide) _ 0 [] rfl dy.out (some ⟨P,0,none⟩) j cl ((T.take j).map cs) rfl ?c1 dz.out ?c2 ?c3 ?c4 ?c5 ?_)
       case c1=>simp[f.out.2];omega
       case c2=>exact c7.out _ (fun i d=>Nat.lt_of_lt_of_le (c9.out i (List.mem_of_mem_take d)) hk)
       case c3=>unfold maxLen;omega
       case c4=>omega
       case c5=>simp
       intro vd wd C d0 ci
       (try simp only[Nat.zero_add,List.nil_append] at C)
       have bd:Below b.heap.size b wd:=((Below.refl b.heap.size b).alloc (Nat.le_refl _) _).grown d0 (by simp) (fun r hr=>by simp[Value.ownBlock] at hr;omega)
       have zd:=bd.size
       have fy:wd.cell? ⟨bu,ou+k,none⟩=some (.slice ax nx cx):=(Xc bd (by omega)).trans ((Xc X.out (by omega)).trans bv.out)
       have d1:=Xa bd
       have cj:=Xa C
       obtain ⟨xd,d2⟩:∃xd,vd.ownBlock=some xd:=by
        rcases ci with e|e
        ·exact ⟨_,e⟩
        ·exact ⟨_,e⟩
       obtain ⟨cd,ed,_⟩:=Jl C d2
       subst ed
       go_wp2_with (at_builtin;refine wpList_append_own_at _ rfl _ _ 28 rfl b.heap.size 25 i2 (.slice none 0 0) 1 24 Tryz.underlying28 bi S bj bl rfl (by decide) _ _ _ rfl (cj.out.alloc _) ⟨wd.heap.size,0,none⟩ 1 1 [.slice ax nx cx] rfl rfl ?c1 ?c2 ?c3 ?c4 ?c5 ?_)
       case c1=>exact cell_one_new _ _ _
       case c2=>intro u hu;simp at hu;subst hu;rfl
       case c3=>unfold maxLen;omega
       case c4=>omega
       case c5=>simp;omega
       intro ve we M d3 fz cm
       have co:Below b.heap.size b we:=(d1.out.alloc zd _).grown d3 (by simp;omega) (fun r hr=>(cj.out.lt r hr).1)
       have ze:=co.size
       have cp:=Xa co
       have cq:=Xa M
       obtain ⟨xe,d4⟩:∃xe,ve.ownBlock=some xe:=by
        rcases cm with e|e
        ·exact ⟨_,e⟩
        ·exact ⟨_,e⟩
       obtain ⟨ce,ee,_⟩:=Jl M d4
       subst ee
       have d5:Hid (0<k-j->∃ad',some bz=some ad'/\∀i x,((T.drop j).map cs)[i]? =some x->we.cell? (ad'.add i)=some x):=by
        intro hp
        refine ⟨_,rfl,fun i x d=> ?_⟩
        have J:i<k-j:=by have:=(List.getElem?_eq_some_iff.1 d).1;simp[f.out.2] at this;omega
        rw[dj.out (by omega) fd]
        have V:(⟨P,j,none⟩:Addr).add i=⟨P,j+i,none⟩:=by unfold Addr.add;split<;>simp_all
        rw[V,Xc cp.out (by omega),Xc X.out Z,bs.out.cellAt (j+i) (by omega)]
        rw[List.map_drop,List.getElem?_drop] at d
        exact d
       go_wp2_with (at_builtin;refine X6 rfl _ _ 28 rfl b.heap.size 25 i2 (.slice none 0 0) 1 24 Tryz.underlying28 bi S bj bl rfl (by decide) _ (j+1) _ rfl cq.out (some bz) (k-j) (cl-j) ((T.drop j).map cs) rfl ?c1 d5.out ?c2 ?c3 ?c4 ?c5 ?_)
       case c1=>simp[f.out.2]
       case c2=>exact c7.out _ (fun i d=>Nat.lt_of_lt_of_le (c9.out i (List.mem_of_mem_drop d)) hk)
       case c3=>unfold maxLen;omega
       case c4=>omega
       case c5=>exact ze
       intro vf wf p d6 cr
       have be:Below b.heap.size b wf:=cp.out.grown d6 ze (fun r hr=>(cq.out.lt r hr).1)
       have zf:=be.size
       rw[b2.out] at p
       have d7:Hid (wf.ownsRow b.heap.size 25 1 vf (k+1) ((T.take j++ [k]++T.drop j).map cs)):=by rw[Hid];simpa [List.map_append,List.map_take,List.map_drop,dg.out] using p
       obtain ⟨xf,d8⟩:∃xf,vf.ownBlock=some xf:=by
        rcases cr with e|e
        ·exact ⟨_,e⟩
        ·exact ⟨_,e⟩
       obtain ⟨cf,ef,d9⟩:=Jl p d8
       subst ef
       have ct:xf<wf.heap.size:=(p.lt xf rfl).2
       have cv:Hid (wf.ownsRow w.heap.size 9 1 (.slice (some ⟨xc,0,none⟩) (k+1) cc) (k+1) ((q.take j++ [key]++q.drop j).map Value.string)):=Qb (Z1 ch.out be (fun y hy=>(ch.out.lt y hy).2)) zw
       have cw:=Xa (Qb d7.out (show w.heap.size<=b.heap.size by omega))
       have fa:=Xa (bt.out.trans ((X.out.trans (be.mono zc)).mono zw))
       have cy:=dk.out
       rw[F.out] at cy
       have cz:=Xa cy
       go_wp2_with fail
       go_roundw
       case rel=>exact ⟨k+1,xc,xf,cc,cf,_,_,by omega,by go_num,rfl,rfl,dx,d9,by omega,ct,cz.out,cv.out,cw.out,fa.out⟩
       case measure=>simp[intOf];omega
     ·have fe:Op.bytesLess (Xf q j).toList key.toList=true:=hle
      have fh:Hid (∀t,t<j+1->Y4 (Xf q t) key=true):=fun t ht=>by
       by_cases e:t=j
       ·subst e;exact hle
       ·exact df.out t (by omega)
      go_wp2_with fail
      go_quiet (fail)
      go_wp2_with fail
      go_roundw
      case rel=>exact ⟨j+1,by omega,by go_num,fh.out,below_drewN bo nq⟩
      case measure=>simp[intOf];omega
    ·skip
     have bp:Hid (Z3 q key=j):=Xgl (by rw[f.out.1];exact bn) df.out (fun h=>absurd h (by rw[f.out.1];omega))
     have bq:Hid (Y0 q key=false):=by rw[Hid,Xs1 bp.out,f.out.1];simp[hj]
     go_wp2_with fail
     go_quiet (fail)
     have G:=below_drewN bo nq
     generalize wr.drewN nq=W1 at G|-
     go_wp2_with fail
     go_quiet (fail)
     have s:=below_drewN G nq
     generalize W1.drewN nq=WQ at s|-
     -- the key and the row are put in their place
     have zq:=s.size
     have zw:w.heap.size<=WQ.heap.size:=Nat.le_trans zs zq
     have Y:D<WQ.heap.size:=by omega
     have Z:P<WQ.heap.size:=by omega
     have br:=Xa (Z1 HN.out s (fun y hy=>(HN.out.lt y hy).2))
     have bs:=Xa (Z1 HL.out s (fun y hy=>(HL.out.lt y hy).2))
     have bt:=Xa (bm.trans (s.mono zs))
     obtain ⟨bu,ou,rfl,ft,ba⟩:=dd.out (by omega)
     have bv:=Xa ((Xc bt.out (show bu<w.heap.size by omega)).trans (ba k hlt))
     obtain ⟨ax,nx,cx,bb⟩:=c6.out k hlt
     have dg:=Xa bb
     rw[bb] at bv
     have dh:Hid (WQ.cell? ⟨bk,ok+k,none⟩=some (.string key)):=(Xc s (by omega)).trans da
     obtain ⟨bw,fu,bx⟩:=Xlr D k cn j bn
     obtain ⟨bz,fv,b0⟩:=Xls P k cl j bn
     have di:=Xa bx
     have dj:=Xa b0
     have dk:Hid (Y9 ks (k+1)=some (q.take j++ [Xf ks k]++q.drop j,T.take j++ [k]++T.drop j)):=Xd7 c8.out (by rw[F.out];exact bp.out) (by rw[F.out];exact bq.out)
     have b1:j+1+(k-j)=k+1:=by omega
     have b2:=Xa b1
     clear ba bb bx b0 b1 s
     have dl:Hid (0<j->∃ad',some (⟨D,0,none⟩:Addr)=some ad'/\∀i x,((q.take j).map Value.string)[i]? =some x->(WQ.alloc (.cells #[] 9)).cell? (ad'.add i)=some x):=by
      intro _
      refine ⟨_,rfl,fun i x d=> ?_⟩
      have J:i<j:=by have:=(List.getElem?_eq_some_iff.1 d).1;simp at this;omega
      have V:(⟨D,0,none⟩:Addr).add i=⟨D,i,none⟩:=by unfold Addr.add;split<;>simp_all
      rw[V,Xc ((Below.refl WQ.heap.size WQ).alloc (Nat.le_refl _) _) Y,br.out.cellAt i (by omega)]
      rw[List.map_take,List.getElem?_take] at d
      simpa [J] using d
     have dm:Hid ((WQ.alloc (.cells #[] 9)).ownsRow WQ.heap.size 9 1 (.slice (some ⟨WQ.heap.size,0,none⟩) 0 0) 0 []):=by
      have:=World.ownsRow_lit (base:=WQ.heap.size) (e:=9) (size:=1) WQ #[] 0 (Nat.le_refl _) (by simp[maxLen]) rfl
      simpa [Hid] using this
     go_wp2_with (at_builtin;refine X6 rfl _ _ 72 rfl WQ.heap.size 9 i1 (.string ByteArray.empty) 1 16 Tryz.underlying72 bf R bg bh rfl (by decide) _ 0 [] rfl dm.out (some ⟨D,0,none⟩) j cn ((q.take j).map Value.string) rfl ?c1 dl.out ?c2 ?c3 ?c4 ?c5 ?_)
     case c1=>simp[f.out.1];omega
     case c2=>exact Xdw _
     case c3=>unfold maxLen;omega
     case c4=>omega
     case c5=>simp
     intro va wa z dp b3
     (try simp only[Nat.zero_add,List.nil_append] at z)
     have bc:Below WQ.heap.size WQ wa:=((Below.refl WQ.heap.size WQ).alloc (Nat.le_refl _) _).grown dp (by simp) (fun r hr=>by simp[Value.ownBlock] at hr;omega)
     have za:=bc.size
     have fw:wa.cell? ⟨bk,ok+k,none⟩=some (.string key):=(Xc bc (by omega)).trans dh.out
     have dq:=Xa bc
     have b4:=Xa z
     obtain ⟨xa,dr⟩:∃xa,va.ownBlock=some xa:=by
      rcases b3 with e|e
      ·exact ⟨_,e⟩
      ·exact ⟨_,e⟩
     obtain ⟨ca,V,_⟩:=Jl z dr
     subst V
     go_wp2_with (at_builtin;refine wpList_append_own_at _ rfl _ _ 72 rfl WQ.heap.size 9 i1 (.string ByteArray.empty) 1 16 Tryz.underlying72 bf R bg bh rfl (by decide) _ _ _ rfl (b4.out.alloc _) ⟨wa.heap.size,0,none⟩ 1 1 [.string key] rfl rfl ?c1 ?c2 ?c3 ?c4 ?c5 ?_)
     case c1=>exact cell_one_new _ _ _
     case c2=>intro u hu;simp at hu;subst hu;rfl
     case c3=>unfold maxLen;omega
     case c4=>omega
     case c5=>simp;omega
     intro vb wb L ds fx b5
     have b6:Below WQ.heap.size WQ wb:=(dq.out.alloc za _).grown ds (by simp;omega) (fun r hr=>(b4.out.lt r hr).1)
     have zb:=b6.size
     have b7:=Xa b6
     have b8:=Xa L
     obtain ⟨xb,dt⟩:∃xb,vb.ownBlock=some xb:=by
      rcases b5 with e|e
      ·exact ⟨_,e⟩
      ·exact ⟨_,e⟩
     obtain ⟨cb,eb,_⟩:=Jl L dt
     subst eb
     have du:Hid (0<k-j->∃ad',some bw=some ad'/\∀i x,((q.drop j).map Value.string)[i]? =some x->wb.cell? (ad'.add i)=some x):=by
      intro hp
      refine ⟨_,rfl,fun i x d=> ?_⟩
      have J:i<k-j:=by have:=(List.getElem?_eq_some_iff.1 d).1;simp[f.out.1] at this;omega
      rw[di.out (by omega) fc]
      have V:(⟨D,j,none⟩:Addr).add i=⟨D,j+i,none⟩:=by unfold Addr.add;split<;>simp_all
      rw[V,Xc b7.out Y,br.out.cellAt (j+i) (by omega)]
      rw[List.map_drop,List.getElem?_drop] at d
      exact d
     go_wp2_with (at_builtin;refine X6 rfl _ _ 72 rfl WQ.heap.size 9 i1 (.string ByteArray.empty) 1 16 Tryz.underlying72 bf R bg bh rfl (by decide) _ (j+1) _ rfl b8.out (some bw) (k-j) (cn-j) ((q.drop j).map Value.string) rfl ?c1 du.out ?c2 ?c3 ?c4 ?c5 ?_)
     case c1=>simp[f.out.1]
     case c2=>exact Xdw _
     case c3=>unfold maxLen;omega
     case c4=>omega
     case c5=>exact zb
     intro vc b g dv b9
     have cg:Below WQ.heap.size WQ b:=b7.out.grown dv zb (fun r hr=>(b8.out.lt r hr).1)
     have zc:=cg.size
     have X:=Xa cg
     rw[b2.out] at g
     have ch:Hid (b.ownsRow WQ.heap.size 9 1 vc (k+1) ((q.take j++ [key]++q.drop j).map Value.string)):=by rw[Hid];simpa [List.map_append,List.map_take,List.map_drop] using g
     obtain ⟨xc,dw⟩:∃xc,vc.ownBlock=some xc:=by
      rcases b9 with e|e
      ·exact ⟨_,e⟩
      ·exact ⟨_,e⟩
     obtain ⟨cc,ec,dx⟩:=Jl g dw
     subst ec
     have fg:xc<b.heap.size:=(g.lt xc rfl).2
     have dy:Hid ((b.alloc (.cells #[] 25)).ownsRow b.heap.size 25 1 (.slice (some ⟨b.heap.size,0,none⟩) 0 0) 0 []):=by
      have:=World.ownsRow_lit (base:=b.heap.size) (e:=25) (size:=1) b #[] 0 (Nat.le_refl _) (by simp[maxLen]) rfl
      simpa [Hid] using this
     have dz:Hid (0<j->∃ad',some (⟨P,0,none⟩:Addr)=some ad'/\∀i x,((T.take j).map cs)[i]? =some x->(b.alloc (.cells #[] 25)).cell? (ad'.add i)=some x):=by
      intro _
      refine ⟨_,rfl,fun i x d=> ?_⟩
      have J:i<j:=by have:=(List.getElem?_eq_some_iff.1 d).1;simp at this;omega
      have V:(⟨P,0,none⟩:Addr).add i=⟨P,i,none⟩:=by unfold Addr.add;split<;>simp_all
      rw[V,Xc (X.out.alloc zc _) Z,bs.out.cellAt i (by omega)]
      rw[List.map_take,List.getElem?_take] at d
      simpa [J] using d
     go_wp2_with (at_builtin;refine X6 rfl _ _ 28 rfl b.heap.size 25 i2 (.slice none 0 0) 1 24 Tryz.underlying28 bi S bj bl rfl (by decide) _ 0 [] rfl dy.out (some ⟨P,0,none⟩) j cl ((T.take j).map cs) rfl ?c1 dz.out ?c2 ?c3 ?c4 ?c5 ?_)
     case c1=>simp[f.out.2];omega
     case c2=>exact c7.out _ (fun i d=>Nat.lt_of_lt_of_le (c9.out i (List.mem_of_mem_take d)) hk)
     case c3=>unfold maxLen;omega
     case c4=>omega
     case c5=>simp
     intro vd wd C d0 ci
     (try simp only[Nat.zero_add,List.nil_append] at C)
     have bd:Below b.heap.size b wd:=((Below.refl b.heap.size b).alloc (Nat.le_refl _) _).grown d0 (by simp) (fun r hr=>by simp[Value.ownBlock] at hr;omega)
     have zd:=bd.size
     have fy:wd.cell? ⟨bu,ou+k,none⟩=some (.slice ax nx cx):=(Xc bd (by omega)).trans ((Xc X.out (by omega)).trans bv.out)
     have d1:=Xa bd
     have cj:=Xa C
     obtain ⟨xd,d2⟩:∃xd,vd.ownBlock=some xd:=by
      rcases ci with e|e
      ·exact ⟨_,e⟩
      ·exact ⟨_,e⟩
     obtain ⟨cd,ed,_⟩:=Jl C d2
     subst ed
     go_wp2_with (at_builtin;refine wpList_append_own_at _ rfl _ _ 28 rfl b.heap.size 25 i2 (.slice none 0 0) 1 24 Tryz.underlying28 bi S bj bl rfl (by decide) _ _ _ rfl (cj.out.alloc _) ⟨wd.heap.size,0,none⟩ 1 1 [.slice ax nx cx] rfl rfl ?c1 ?c2 ?c3 ?c4 ?c5 ?_)
     case c1=>exact cell_one_new _ _ _
     case c2=>intro u hu;simp at hu;subst hu;rfl
     case c3=>unfold maxLen;omega
     case c4=>omega
     case c5=>simp;omega
     intro ve we M d3 fz cm
     have co:Below b.heap.size b we:=(d1.out.alloc zd _).grown d3 (by simp;omega) (fun r hr=>(cj.out.lt r hr).1)
     have ze:=co.size
     have cp:=Xa co
     have cq:=Xa M
     obtain ⟨xe,d4⟩:∃xe,ve.ownBlock=some xe:=by
      rcases cm with e|e
      ·exact ⟨_,e⟩
      ·exact ⟨_,e⟩
     obtain ⟨ce,ee,_⟩:=Jl M d4
     subst ee
     have d5:Hid (0<k-j->∃ad',some bz=some ad'/\∀i x,((T.drop j).map cs)[i]? =some x->we.cell? (ad'.add i)=some x):=by
      intro hp
      refine ⟨_,rfl,fun i x d=> ?_⟩
      have J:i<k-j:=by have:=(List.getElem?_eq_some_iff.1 d).1;simp[f.out.2] at this;omega
      rw[dj.out (by omega) fd]
      have V:(⟨P,j,none⟩:Addr).add i=⟨P,j+i,none⟩:=by unfold Addr.add;split<;>simp_all
      rw[V,Xc cp.out (by omega),Xc X.out Z,bs.out.cellAt (j+i) (by omega)]
      rw[List.map_drop,List.getElem?_drop] at d
      exact d
     go_wp2_with (at_builtin;refine X6 rfl _ _ 28 rfl b.heap.size 25 i2 (.slice none 0 0) 1 24 Tryz.underlying28 bi S bj bl rfl (by decide) _ (j+1) _ rfl cq.out (some bz) (k-j) (cl-j) ((T.drop j).map cs) rfl ?c1 d5.out ?c2 ?c3 ?c4 ?c5 ?_)
     case c1=>simp[f.out.2]
     case c2=>exact c7.out _ (fun i d=>Nat.lt_of_lt_of_le (c9.out i (List.mem_of_mem_drop d)) hk)
     case c3=>unfold maxLen;omega
     case c4=>omega
     case c5=>exact ze
     intro vf wf p d6 cr
     have be:Below b.heap.size b wf:=cp.out.grown d6 ze (fun r hr=>(cq.out.lt r hr).1)
     have zf:=be.size
     rw[b2.out] at p
     have d7:Hid (wf.ownsRow b.heap.size 25 1 vf (k+1) ((T.take j++ [k]++T.drop j).map cs)):=by rw[Hid];simpa [List.map_append,List.map_take,List.map_drop,dg.out] using p
     obtain ⟨xf,d8⟩:∃xf,vf.ownBlock=some xf:=by
      rcases cr with e|e
      ·exact ⟨_,e⟩
      ·exact ⟨_,e⟩
     obtain ⟨cf,ef,d9⟩:=Jl p d8
     subst ef
     have ct:xf<wf.heap.size:=(p.lt xf rfl).2
     have cv:Hid (wf.ownsRow w.heap.size 9 1 (.slice (some ⟨xc,0,none⟩) (k+1) cc) (k+1) ((q.take j++ [key]++q.drop j).map Value.string)):=Qb (Z1 ch.out be (fun y hy=>(ch.out.lt y hy).2)) zw
     have cw:=Xa (Qb d7.out (show w.heap.size<=b.heap.size by omega))
     have fa:=Xa (bt.out.trans ((X.out.trans (be.mono zc)).mono zw))
     have cy:=dk.out
     rw[F.out] at cy
     have cz:=Xa cy
     go_wp2_with fail
     go_roundw
     case rel=>exact ⟨k+1,xc,xf,cc,cf,_,_,by omega,by go_num,rfl,rfl,dx,d9,by omega,ct,cz.out,cv.out,cw.out,fa.out⟩
     case measure=>simp[intOf];omega
  ·obtain rfl:k=m:=by omega
   go_wp2_with fail
   go_ret3
   exact ⟨by rw[c8.out];exact ⟨_,_,rfl,by rw[f.out.1];exact HN.out,by rw[f.out.2];exact HL.out⟩,bm⟩
end Go.Proofs.YtdjddneidbddpaaGreatDoor
