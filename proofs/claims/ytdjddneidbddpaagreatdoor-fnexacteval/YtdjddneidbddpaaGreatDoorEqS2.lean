import Derived.Test.YtdjddneidbddpaaGreatDoorSpc3
import Derived.Test.YtdjddneidbddpaaGreatDoorTo
import Derived.RangeFuncBox
import Derived.Test.YtdjddneidbddpaaGreatDoorPsZ
import Derived.Test.YtdjddneidbddpaaGreatDoorByP
import Derived.Maps.Range
import Derived.Test.YtdjddneidbddpaaGreatDoorEq
namespace Go.Proofs.YtdjddneidbddpaaGreatDoor
set_option linter.unusedSectionVars false
set_option maxHeartbeats 6400000
open Go.RowKit
set_option linter.unusedSimpArgs false
set_option linter.unusedVariables false
def Un (lo B:Nat) (w:World) (it:Value) (n:Nat) (P:Nat→Value→Prop):Prop:=
 ∃a cap,it= .slice a n cap∧(0<n→∃b,a=some ⟨b,0,none⟩∧lo<b∧b<B∧∀j,j<n→∃t x,w.cell? ⟨b,j,none⟩=some (.iface t x)∧P j (.iface t x))
def ValIs (lo B:Nat) (w:World) (vs:List VN):Nat→Nat→Value→Prop
 |0,_,_=>False
 | f + 1, i, v =>
  ((Xb vs i).kind=1∧v= .iface 160 (.agg #[]))∨
  ((Xb vs i).kind=2∧v= .iface 113 (.agg #[.int .i64 (Xb vs i).n]))∨
  ((Xb vs i).kind=3∧v= .iface 114 (.agg #[.int .i64 (Xb vs i).n]))∨
  ((Xb vs i).kind=4∧v= .iface 116 (.agg #[.string (Xb vs i).s]))∨
  ((Xb vs i).kind=5∧∃it,v= .iface 158 (.agg #[it])∧Un lo B w it (Xb vs i).kids.length (fun j u=>ValIs lo B w vs f (Xm (Xb vs i).kids j).toNat u))∨
  ((Xb vs i).kind=6∧∃ks it,v= .iface 118 (.agg #[ks,it])∧StrsAt lo w ks (Xb vs i).keys∧Un lo B w it (Xb vs i).kids.length (fun j u=>ValIs lo B w vs f (Xm (Xb vs i).kids j).toNat u))
theorem ValIs.iface {lo B:Nat} {w:World} {vs:List VN} {f i:Nat} {v:Value} (h:ValIs lo B w vs f i v):∃t x,v= .iface t x:=by
 cases f with
 |zero=>exact h.elim
 | succ f =>
  rcases h with ⟨_,rfl⟩|⟨_,rfl⟩|⟨_,rfl⟩|⟨_,rfl⟩|⟨_,it,rfl,_⟩|⟨_,ks,it,rfl,_⟩<;>exact ⟨_,_,rfl⟩
def Keep (lo B:Nat) (w w':World):Prop:=∀k,k≠lo→k<B→w'.heap[k]? =w.heap[k]?
theorem Keep.of_below {lo B:Nat} {w w':World} (h:Below B w w'):Keep lo B w w':=fun k _ hk=>h.block k hk
theorem Keep.setCell {lo B o:Nat} (w:World) (v:Value):Keep lo B w (w.setCell ⟨lo,o,none⟩ v):=fun k hk _=>Below.heap_setCell w _ v k hk
theorem Keep.trans {lo B:Nat} {a b c:World} (h:Keep lo B a b) (k:Keep lo B b c):Keep lo B a c:=fun i h1 h2=>(k i h1 h2).trans (h i h1 h2)
theorem Keep.cell {lo B:Nat} {w w':World} (h:Keep lo B w w') {b o:Nat} (h1:b≠lo) (h2:b<B):w'.cell? ⟨b,o,none⟩=w.cell? ⟨b,o,none⟩:=by
 unfold World.cell?
 rw[show w'.heap[(⟨b,o,none⟩:Addr).block]? =w.heap[(⟨b,o,none⟩:Addr).block]? from h b h1 h2]
theorem StrsAt.keep {lo B:Nat} {w w':World} {v:Value} {l:List ByteArray} (h:StrsAt lo w v l) (hk:Keep lo B w w') (hB:lo≤B):StrsAt lo w' v l:=by
 obtain ⟨h1,h2,a,cap,e,h3⟩:=h
 refine ⟨h1,h2,a,cap,e,fun hl=> ?_⟩
 obtain ⟨b,o,ea,hb,hc⟩:=h3 hl
 exact ⟨b,o,ea,hb,fun i hi=>(hk.cell (by omega) (by omega)).trans (hc i hi)⟩
theorem ValIs.keep {lo B B':Nat} {w w':World} {vs:List VN} (hk:Keep lo B w w') (hB:B≤B') (hlo:lo≤B):∀{f i:Nat} {v:Value},ValIs lo B w vs f i v→ValIs lo B' w' vs f i v:=by
 intro f
 induction f with
 |zero=>intro i v h;exact h.elim
 | succ f ih =>
  intro i v h
  have hit:∀it,Un lo B w it (Xb vs i).kids.length (fun j u=>ValIs lo B w vs f (Xm (Xb vs i).kids j).toNat u)→Un lo B' w' it (Xb vs i).kids.length (fun j u=>ValIs lo B' w' vs f (Xm (Xb vs i).kids j).toNat u):=by
   rintro it ⟨a,cap,e,hx⟩
   refine ⟨a,cap,e,fun hn=> ?_⟩
   obtain ⟨b,ea,h1,h2,h3⟩:=hx hn
   refine ⟨b,ea,h1,by omega,fun j hj=> ?_⟩
   obtain ⟨t,x,hc,hv⟩:=h3 j hj
   exact ⟨t,x,(hk.cell (by omega) h2).trans hc,ih hv⟩
  rcases h with h|h|h|h|⟨hk5,it,e,hi⟩|⟨hk6,ks,it,e,hs,hi⟩
  ·exact Or.inl h
  ·exact Or.inr (Or.inl h)
  ·exact Or.inr (Or.inr (Or.inl h))
  ·exact Or.inr (Or.inr (Or.inr (Or.inl h)))
  ·exact Or.inr (Or.inr (Or.inr (Or.inr (Or.inl ⟨hk5,it,e,hit it hi⟩))))
  ·exact Or.inr (Or.inr (Or.inr (Or.inr (Or.inr ⟨hk6,ks,it,e,hs.keep hk hlo,hit it hi⟩))))
theorem ValIs.more {lo B:Nat} {w:World} {vs:List VN}:∀{f g i:Nat} {v:Value},f≤g→ValIs lo B w vs f i v→ValIs lo B w vs g i v:=by
 intro f
 induction f with
 |zero=>intro g i v _ h;exact h.elim
 | succ f ih =>
  intro g i v hfg h
  match g,hfg with
  | g + 1, hfg =>
   have hit:∀it,Un lo B w it (Xb vs i).kids.length (fun j u=>ValIs lo B w vs f (Xm (Xb vs i).kids j).toNat u)→Un lo B w it (Xb vs i).kids.length (fun j u=>ValIs lo B w vs g (Xm (Xb vs i).kids j).toNat u):=by
    rintro it ⟨a,cap,e,hx⟩
    refine ⟨a,cap,e,fun hn=> ?_⟩
    obtain ⟨b,ea,h1,h2,h3⟩:=hx hn
    refine ⟨b,ea,h1,h2,fun j hj=> ?_⟩
    obtain ⟨t,x,hc,hv⟩:=h3 j hj
    exact ⟨t,x,hc,ih (by omega) hv⟩
   rcases h with h|h|h|h|⟨hk5,it,e,hi⟩|⟨hk6,ks,it,e,hs,hi⟩
   ·exact Or.inl h
   ·exact Or.inr (Or.inl h)
   ·exact Or.inr (Or.inr (Or.inl h))
   ·exact Or.inr (Or.inr (Or.inr (Or.inl h)))
   ·exact Or.inr (Or.inr (Or.inr (Or.inr (Or.inl ⟨hk5,it,e,hit it hi⟩))))
   ·exact Or.inr (Or.inr (Or.inr (Or.inr (Or.inr ⟨hk6,ks,it,e,hs,hit it hi⟩))))
theorem Xbr:(Tryz.prog.info? 52).map (fun i=>(i.zero,i.size,i.bytes))=some (some .nilIface,1,16):=by kernel_rfl
def Xai (VV:Nat→Value) (k j:Nat):Value:=if j<k then VV j else .nilIface
theorem Xux {w:World} {b t n k:Nat} {VV:Nat→Value} {v:Value} (h:w.rowIs b t n (Xai VV k)):(w.setCell ⟨b,k,none⟩ v).rowIs b t n (Xai (fun j=>if j=k then v else VV j) (k+1)):=by
 refine (h.set k _).congr fun i _=> ?_
 unfold Xai
 by_cases e:i=k
 ·subst e;rw[if_pos rfl,if_pos (by omega)];simp
 ·rw[if_neg e];by_cases g:i<k
  ·rw[if_pos g,if_pos (by omega)];simp[e]
  ·rw[if_neg g,if_neg (by omega)]
theorem Zx {vs:List VN} {i j:Nat} (h:Z8 vs i=true) (hj:j<(Xb vs i).kids.length):0≤Xm (Xb vs i).kids j∧Xm (Xb vs i).kids j≤(i:Int)-1:=by
 unfold Z8 at h
 rw[List.all_eq_true] at h
 have:=h (Xm (Xb vs i).kids j) (by unfold Yj;rw[Zd hj];exact List.getElem_mem _)
 simpa using this
theorem X1b {T:Nat→Option (Nat×Nat)} (hT:∀m p,T m=some p→p.1≤m):∀(l:List Int) (b h:Nat) (q:Nat×Nat),l.foldl (X7 T) (some (b,h))=some q→l.length≤b:=by
 intro l
 induction l with
 |nil=>intro b h q _;exact Nat.zero_le _
 | cons k l ih =>
  intro b h q e
  obtain ⟨p,h1,_,h3,h4⟩:=Qi e
  have:=ih _ _ _ h4
  have:=hT _ _ h3
  simp only[List.length_cons]
  omega
theorem X4v {K:Nat→List Int} {n:Nat} {p:Nat×Nat} (e:tr K n=some p):(K n).length≤n:=by
 rw[Ua] at e
 cases hf:(K n).reverse.foldl (X7 (tr K)) (some (n,0)) with
 |none=>simp[hf] at e
 |some q=>have:=X1b (fun m p hp=>Kv hp) _ _ _ _ hf;simpa using this
theorem Xp {vs:List VN} (h:okB vs=true):(1≤vs.length∧vs.length≤80)∧(∀k,k<vs.length→X9 (Xb vs k)=true∧Z8 vs k=true)∧(∀k,k<vs.length→∃p,tr (Yj vs) k=some p)∧(∀k,k<vs.length→(Xb vs k).kids.length≤k):=by
 have ht:=Xi0 vs
 rw[h] at ht
 unfold okB Ub at h
 unfold Xfm at ht
 simp only[Bool.and_eq_true,List.all_eq_true,List.mem_range,decide_eq_true_eq] at h ht
 obtain ⟨⟨h1,h2⟩,h3⟩:=h
 have hs:∀k,k<vs.length→∃p,tr (Yj vs) k=some p:=fun k hk=>Option.isSome_iff_exists.1 (ht.2.1 k hk)
 exact ⟨h1,h2,hs,fun k hk=>by obtain ⟨p,hp⟩:=hs k hk;exact X4v hp⟩
theorem Xo3 {lo base e n:Nat} {w:World} {it:Value} {f:Nat→Value} {P:Nat→Value→Prop} (h:w.ownsRow base e 1 it n ((List.range n).map f)) (hlo:lo<base) (hP:∀j,j<n→∃t x,f j= .iface t x∧P j (.iface t x)):Un lo w.heap.size w it n P:=by
 obtain ⟨_,h⟩:=h
 rcases h with ⟨rfl,rfl⟩|⟨g,cap,cur,rfl,hb,hg,hn,_,hsz,htk⟩
 ·exact ⟨none,0,rfl,fun h=>absurd h (by omega)⟩
 ·refine ⟨_,cap,rfl,fun hpos=>⟨g,rfl,by omega,(Array.getElem?_eq_some_iff.1 hg).1,fun j hj=> ?_⟩⟩
  obtain ⟨t,x,hf,hp⟩:=hP j hj
  refine ⟨t,x, ?_,hp⟩
  have h1:(cur.toList.take (n *1))[j]? =some (f j):=by rw[htk];simp[hj]
  rw[List.getElem?_take_of_lt (by omega),Array.getElem?_toList] at h1
  simp[World.cell?,hg,h1,hf]

theorem Xz3 (vs:List VN) (d:Int) (a n:Nat):run vs d a (n+1)=run vs d a n++ [Yb d (Xb vs (a+n))]:=by
 rw[←Xdq];simp[run]
theorem Z2 {w w':World} {base e s n:Nat} {v:Value} {xs:List Value} {B:Nat} (h:w.ownsRow base e s v n xs) (hb:Below B w w') (hB:∀x,v.ownBlock=some x→x<B):w'.ownsRow base e s v n xs:=by
 refine ⟨h.1, ?_⟩
 rcases h.2 with hn|⟨g,cap,cur,rfl,hg,hgg,rest⟩
 ·exact .inl hn
 ·exact .inr ⟨g,cap,cur,rfl,hg,(hb.block g (hB g rfl)).trans hgg,rest⟩
theorem Nest.below {base:Nat} {w w':World} {v:Value} {vs:List VN} {KV IV:Nat→Value} (h:Nest base w v vs KV IV) (hb:Below w.heap.size w w'):Nest base w' v vs KV IV:=
 ⟨Z2 h.row hb (fun x hx=>(h.row.lt x hx).2),fun i hi=>Z2 (h.rk i hi) hb (fun x hx=>((h.rk i hi).lt x hx).2),fun i hi=>Z2 (h.ri i hi) hb (fun x hx=>((h.ri i hi).lt x hx).2),h.dkk,h.dii⟩
theorem X2x (w:World) (cs:Array Value) (t b j:Nat) (v:Value) (hb:b=w.heap.size) (h:cs[j]? =some v):(w.alloc (.cells cs t)).cell? ⟨b,j,none⟩=some v:=by
 subst hb
 rw[cell_of_row _ _ j cs t (0,0) (heap_alloc_new w _)];exact h
theorem Qc {w:World} {base base' e s n:Nat} {v:Value} {xs:List Value} (h:w.ownsRow base e s v n xs) (hb:base'≤base):w.ownsRow base' e s v n xs:=by
 refine ⟨h.1, ?_⟩
 rcases h.2 with hn|⟨g,cap,cur,rfl,hg,rest⟩
 ·exact .inl hn
 ·exact .inr ⟨g,cap,cur,rfl,by omega,rest⟩
theorem Jm {w:World} {base e s n:Nat} {v:Value} {xs:List Value} (h:w.ownsRow base e s v n xs) {b o:Nat} (u:Value) (hne:∀x,v.ownBlock=some x→x≠b):(w.setCell ⟨b,o,none⟩ u).ownsRow base e s v n xs:=by
 refine ⟨h.1, ?_⟩
 rcases h.2 with hn|⟨g,cap,cur,rfl,hg,hgg,rest⟩
 ·exact .inl hn
 ·exact .inr ⟨g,cap,cur,rfl,hg,(Below.heap_setCell w _ u g (hne g rfl)).trans hgg,rest⟩
def Vr (l:List Int) (d:Int) (k:Nat):List Value:=(l.take k).map (fun q=> .int .i64 (q+d))
theorem Xnu (l:List Int) (d:Int):Vr l d 0= []:=by simp[Vr]
theorem Xnv {l:List Int} {d:Int} {k:Nat} (h:k<l.length):Vr l d (k+1)=Vr l d k++ [.int .i64 (Xm l k+d)]:=by
 unfold Vr
 rw[List.take_add_one,List.map_append,List.getElem?_eq_getElem h,Zd h]
 simp
theorem Xq8 (l:List Int) (d:Int):Vr l d l.length=(l.map (· +d)).map (.int .i64):=by simp[Vr]
theorem Xj {w:World} {base e s n:Nat} {v:Value} {xs:List Value} (h:w.ownsRow base e s v n xs):∃a c,v= .slice a n c:=by
 rcases h.2 with ⟨rfl,rfl⟩|⟨g,cap,cur,rfl,_⟩
 ·exact ⟨_,_,rfl⟩
 ·exact ⟨_,_,rfl⟩
set_option maxRecDepth 100000 in
theorem Xio (B:Nat) (v:Value) (vs:List VN) (n a h':Nat) (w:World) (h:NodesAt B w v vs) (hB:B≤w.heap.size) (h80:vs.length≤80) (hkids:∀k,k<vs.length→Z8 vs k=true∧(Xb vs k).kids.length≤80∧(Xb vs k).keys.length≤80) (hn:n<vs.length) (htr:tr (Yj vs) n=some (a,h')):
  Calls Tryz.prog 129 #[v, .int .i64 n] w fun e w'=>∃r KV IV,e= .returned r∧Nest w.heap.size w' r (run vs (-(a:Int)) a (n+1-a)) KV IV∧Below w.heap.size w w':=by
 have HV:=Xa h
 obtain ⟨hlen,av,cap,rfl,hcell⟩:=h
 obtain ⟨b0,o0,rfl,hb0,hc⟩:=hcell (by omega)
 have HC:=Xa hc
 have HK:=Xa hkids
 have han:=Kv htr
 simp at han
 have HF:Hid (trF (tr (Yj vs) n)=(a:Int)):=by rw[Hid,htr];rfl
 obtain ⟨i0,hi0,hz0,hs0,hy0⟩:=info_parts Kr
 obtain ⟨i1,hi1,hz1,hs1,hy1⟩:=info_parts Wr
 obtain ⟨i2,hi2,hz2,hs2,hy2⟩:=info_parts Wq
 clear hcell hc hkids htr
 go_enter Tryz.func129,Tryz.ntmps129
 go_wp2_with fail
 refine (Xie B _ vs vs.length n _ hn hn HV.out).mono ?_
 rintro e w1 ⟨rfl,rfl⟩
 obtain ⟨w,rfl⟩:∃w,w=w1:=⟨_,rfl⟩
 rw[HF.out]
 go_wp2_with fail
 have hb1:Below w.heap.size w (w.alloc (.cells #[] 75)):=(Below.refl _ _).alloc (Nat.le_refl _) _
 have hn0:Nest w.heap.size (w.alloc (.cells #[] 75)) (.slice (some ⟨w.heap.size,0,none⟩) 0 0) (run vs (-(a:Int)) a 0) (fun _=>undef) (fun _=>undef):=
  ⟨World.ownsRow_lit w #[] 0 (Nat.le_refl _) (by simp[maxLen]) rfl,fun i hi=>absurd hi (by simp[run]),fun i hi=>absurd hi (by simp[run]),fun i j hi=>absurd hi (by simp[run]),fun i j hi=>absurd hi (by simp[run])⟩
 go_loopw [7,8] (fun o i wr=>∃(c:Nat) (KV IV:Nat→Value),a≤c∧c≤n+1∧i= .int .i64 c∧Nest w.heap.size wr o (run vs (-(a:Int)) a (c-a)) KV IV∧Below w.heap.size w wr) (fun _ i _=>n+1-(intOf i).toNat)
 case atStart=>exact ⟨a,_,_,Nat.le_refl _,by omega,rfl,by rw[Nat.sub_self];exact hn0,hb1⟩
 case round =>
  obtain ⟨c,KV,IV,hac,hcn,rfl,hnest,hbl⟩:=hrel
  clear hb1 hn0
  have HN:=Xa hnest
  have zs:=hbl.size
  obtain ⟨ao,co,rfl⟩:=Xj hnest.row
  by_cases hlt:c≤n
  ·obtain ⟨ka,ki,hn1⟩:=HC.out c (by omega)
   have hn2:=hn1.below (hbl.mono hB) hb0
   have c0:=hn2.c0
   have c1:=hn2.c1
   have c2:=hn2.c2
   have c3:=hn2.c3
   have c4:=hn2.c4
   obtain ⟨_,_,aK,cK,eK,hkk⟩:=hn2.inn.keys
   obtain ⟨_,hkb,aI,cI,eI,hki⟩:=hn2.inn.kids
   subst eK eI
   have HKK:=Xa hkk
   have HKI:=Xa hki
   have kk:=HK.out c (by omega)
   clear hn1 hn2 hkk hki hnest
   have hown1:(((wr.alloc (.cells #[.int .i64 (Xb vs c).kind, .int .i64 (Xb vs c).n, .string (Xb vs c).s, .slice aK (Xb vs c).keys.length cK, .slice aI (Xb vs c).kids.length cI] 75)).alloc (.cells #[] 9))).ownsRow w.heap.size 9 1 (.slice (some ⟨wr.heap.size+1,0,none⟩) 0 0) 0 []:=by
    have:=World.ownsRow_lit (base:=w.heap.size) (e:=9) (size:=1) (wr.alloc (.cells #[.int .i64 (Xb vs c).kind, .int .i64 (Xb vs c).n, .string (Xb vs c).s, .slice aK (Xb vs c).keys.length cK, .slice aI (Xb vs c).kids.length cI] 75)) #[] 0 (by simp;omega) (by simp[maxLen]) rfl
    simpa using this
   have hx0:(((wr.alloc (.cells #[.int .i64 (Xb vs c).kind, .int .i64 (Xb vs c).n, .string (Xb vs c).s, .slice aK (Xb vs c).keys.length cK, .slice aI (Xb vs c).kids.length cI] 75)).alloc (.cells #[] 9))).cell? ⟨wr.heap.size,0,none⟩=some (.int .i64 (Xb vs c).kind):=by simp
   have hx1:(((wr.alloc (.cells #[.int .i64 (Xb vs c).kind, .int .i64 (Xb vs c).n, .string (Xb vs c).s, .slice aK (Xb vs c).keys.length cK, .slice aI (Xb vs c).kids.length cI] 75)).alloc (.cells #[] 9))).cell? ⟨wr.heap.size,1,none⟩=some (.int .i64 (Xb vs c).n):=by simp
   have hx2:(((wr.alloc (.cells #[.int .i64 (Xb vs c).kind, .int .i64 (Xb vs c).n, .string (Xb vs c).s, .slice aK (Xb vs c).keys.length cK, .slice aI (Xb vs c).kids.length cI] 75)).alloc (.cells #[] 9))).cell? ⟨wr.heap.size,2,none⟩=some (.string (Xb vs c).s):=by simp
   have hx3:(((wr.alloc (.cells #[.int .i64 (Xb vs c).kind, .int .i64 (Xb vs c).n, .string (Xb vs c).s, .slice aK (Xb vs c).keys.length cK, .slice aI (Xb vs c).kids.length cI] 75)).alloc (.cells #[] 9))).cell? ⟨wr.heap.size,3,none⟩=some (.slice aK (Xb vs c).keys.length cK):=by simp
   have hx4:(((wr.alloc (.cells #[.int .i64 (Xb vs c).kind, .int .i64 (Xb vs c).n, .string (Xb vs c).s, .slice aK (Xb vs c).keys.length cK, .slice aI (Xb vs c).kids.length cI] 75)).alloc (.cells #[] 9))).cell? ⟨wr.heap.size,4,none⟩=some (.slice aI (Xb vs c).kids.length cI):=by simp
   have hfz:∀j,(((wr.alloc (.cells #[.int .i64 (Xb vs c).kind, .int .i64 (Xb vs c).n, .string (Xb vs c).s, .slice aK (Xb vs c).keys.length cK, .slice aI (Xb vs c).kids.length cI] 75)).alloc (.cells #[] 9))).frozen? ⟨wr.heap.size,j,none⟩=false:=fun j=>by simp
   have hw1:Below wr.heap.size wr (((wr.alloc (.cells #[.int .i64 (Xb vs c).kind, .int .i64 (Xb vs c).n, .string (Xb vs c).s, .slice aK (Xb vs c).keys.length cK, .slice aI (Xb vs c).kids.length cI] 75)).alloc (.cells #[] 9))):=((Below.refl _ _).alloc (Nat.le_refl _) _).alloc (by simp) _
   have hS1:(((wr.alloc (.cells #[.int .i64 (Xb vs c).kind, .int .i64 (Xb vs c).n, .string (Xb vs c).s, .slice aK (Xb vs c).keys.length cK, .slice aI (Xb vs c).kids.length cI] 75)).alloc (.cells #[] 9))).heap.size=wr.heap.size+1+1:=by simp
   have HX:=Xa (And.intro hx0 (And.intro hx1 (And.intro hx2 (And.intro hx3 (And.intro hx4 hfz)))))
   have HW1:=Xa hw1
   have HS1:=Xa hS1
   have HOWN:=Xa hown1
   have HSRC:Hid (0<(Xb vs c).keys.length→∃ad,aK=some ad∧∀j u,((Xb vs c).keys.map Value.string)[j]? =some u→(((wr.alloc (.cells #[.int .i64 (Xb vs c).kind, .int .i64 (Xb vs c).n, .string (Xb vs c).s, .slice aK (Xb vs c).keys.length cK, .slice aI (Xb vs c).kids.length cI] 75)).alloc (.cells #[] 9))).cell? (ad.add j)=some u):=by
    intro hp
    obtain ⟨bk,ok,rfl,hbk,hck⟩:=HKK.out hp
    refine ⟨_,rfl,fun j u hj=> ?_⟩
    have hj':j<(Xb vs c).keys.length:=by have:=(List.getElem?_eq_some_iff.1 hj).1;simpa using this
    rw[show (⟨bk,ok,none⟩:Addr).add j=⟨bk,ok+j,none⟩ by simp[Addr.add],Xc hw1 (by omega),hck j hj']
    simp[hj',Xh] at hj⊢
    exact hj
   clear hx0 hx1 hx2 hx3 hx4 hfz hw1 hS1 hown1
   go_wp2_with (at_builtin;refine Ye rfl _ _ 72 rfl w.heap.size 9 i1 (.string ByteArray.empty) 1 16 Tryz.underlying72 hi1 hz1 hs1 hy1 rfl (by decide) _ 0 [] rfl HOWN.out aK (Xb vs c).keys.length cK ((Xb vs c).keys.map .string) rfl (by simp) HSRC.out ?c2 ?c3 ?c4 ?c5 ?_)
   case c2=>intro u hu;obtain ⟨q,_,rfl⟩:=List.mem_map.1 hu;rfl
   case c3=>unfold maxLen;omega
   case c4=>omega
   case c5=>simp;omega
   intro v' w2 hk2 hg2 hat2
   (try simp only[Nat.zero_add,List.nil_append] at hk2)
   have hat3:v'.ownBlock=some (wr.heap.size+1)∨v'.ownBlock=some (wr.heap.size+1+1):=by
    rcases hat2 with e|e
    ·exact Or.inl e
    ·exact Or.inr (by first|exact e|rw[e,HS1.out])
   obtain ⟨g2,p2,rfl⟩:∃g p,v'= .slice (some ⟨g,0,none⟩) (Xb vs c).keys.length p:=by
    rcases hk2.2 with ⟨rfl,_⟩|⟨g,p,cur,rfl,_⟩
    ·simp[Value.ownBlock] at hat3
    ·exact ⟨g,p,rfl⟩
   have hg2b:g2=wr.heap.size+1∨g2=wr.heap.size+1+1:=by simpa [Value.ownBlock] using hat3
   have hb2:Below wr.heap.size wr w2:=HW1.out.grown hg2 (by rw[HS1.out];omega) (fun r hr=>by simp[Value.ownBlock] at hr;omega)
   have hg2l:=(hk2.lt g2 rfl).2
   have z2:=hb2.size
   have hgs:=hg2.size
   rw[HS1.out] at hgs
   have hne:some wr.heap.size≠(Value.slice (some ⟨wr.heap.size+1,0,none⟩) 0 0).ownBlock:=by simp[Value.ownBlock]
   have y0:=hg2.cell HX.out.1 hne
   have y1:=hg2.cell HX.out.2.1 hne
   have y2:=hg2.cell HX.out.2.2.1 hne
   have y3:=hg2.cell HX.out.2.2.2.1 hne
   have y4:=hg2.cell HX.out.2.2.2.2.1 hne
   have yf:∀j,w2.frozen? ⟨wr.heap.size,j,none⟩=false:=fun j=>(World.frozen?_of_block (hg2.block wr.heap.size (by rw[HS1.out];omega) hne)).trans (HX.out.2.2.2.2.2 j)
   have HB2:=Xa hb2
   have HK2:=Xa hk2
   have HG2:=Xa hg2b
   clear hk2 hg2 hat2 hat3 hg2b hne c0 c1 c2 c3 c4
   have HZ:Hid (((w2.setCell ⟨wr.heap.size,3,none⟩ (.slice (some ⟨g2,0,none⟩) (Xb vs c).keys.length p2)).alloc (.cells #[] 2)).cell? ⟨wr.heap.size,0,none⟩=some (.int .i64 (Xb vs c).kind)∧((w2.setCell ⟨wr.heap.size,3,none⟩ (.slice (some ⟨g2,0,none⟩) (Xb vs c).keys.length p2)).alloc (.cells #[] 2)).cell? ⟨wr.heap.size,1,none⟩=some (.int .i64 (Xb vs c).n)∧((w2.setCell ⟨wr.heap.size,3,none⟩ (.slice (some ⟨g2,0,none⟩) (Xb vs c).keys.length p2)).alloc (.cells #[] 2)).cell? ⟨wr.heap.size,2,none⟩=some (.string (Xb vs c).s)∧
     ((w2.setCell ⟨wr.heap.size,3,none⟩ (.slice (some ⟨g2,0,none⟩) (Xb vs c).keys.length p2)).alloc (.cells #[] 2)).cell? ⟨wr.heap.size,3,none⟩=some (.slice (some ⟨g2,0,none⟩) (Xb vs c).keys.length p2)∧((w2.setCell ⟨wr.heap.size,3,none⟩ (.slice (some ⟨g2,0,none⟩) (Xb vs c).keys.length p2)).alloc (.cells #[] 2)).cell? ⟨wr.heap.size,4,none⟩=some (.slice aI (Xb vs c).kids.length cI)∧∀j,((w2.setCell ⟨wr.heap.size,3,none⟩ (.slice (some ⟨g2,0,none⟩) (Xb vs c).keys.length p2)).alloc (.cells #[] 2)).frozen? ⟨wr.heap.size,j,none⟩=false):=by
    have hal:∀j,((w2.setCell ⟨wr.heap.size,3,none⟩ (.slice (some ⟨g2,0,none⟩) (Xb vs c).keys.length p2)).alloc (.cells #[] 2)).cell? ⟨wr.heap.size,j,none⟩=(w2.setCell ⟨wr.heap.size,3,none⟩ (.slice (some ⟨g2,0,none⟩) (Xb vs c).keys.length p2)).cell? ⟨wr.heap.size,j,none⟩:=fun j=>Xc ((Below.refl _ _).alloc (Nat.le_refl _) _) (by simp;omega)
    refine ⟨?_, ?_, ?_, ?_, ?_,fun j=> ?_⟩
    ·rw[hal,World.cell?_setCell_other _ _ _ _ (by simp)];exact y0
    ·rw[hal,World.cell?_setCell_other _ _ _ _ (by simp)];exact y1
    ·rw[hal,World.cell?_setCell_other _ _ _ _ (by simp)];exact y2
    ·rw[hal];exact World.cell?_setCell_same _ _ _ y3
    ·rw[hal,World.cell?_setCell_other _ _ _ _ (by simp)];exact y4
    ·have hb:((w2.setCell ⟨wr.heap.size,3,none⟩ (.slice (some ⟨g2,0,none⟩) (Xb vs c).keys.length p2)).alloc (.cells #[] 2)).heap[wr.heap.size]? =(w2.setCell ⟨wr.heap.size,3,none⟩ (.slice (some ⟨g2,0,none⟩) (Xb vs c).keys.length p2)).heap[wr.heap.size]? :=((Below.refl _ (w2.setCell ⟨wr.heap.size,3,none⟩ (.slice (some ⟨g2,0,none⟩) (Xb vs c).keys.length p2))).alloc (Nat.le_refl _) _).block _ (by simp;omega)
     rw[World.frozen?_of_block (a:=⟨wr.heap.size,j,none⟩) hb,World.frozen?_setCell];exact yf j
   have HB3:Hid (Below wr.heap.size wr ((w2.setCell ⟨wr.heap.size,3,none⟩ (.slice (some ⟨g2,0,none⟩) (Xb vs c).keys.length p2)).alloc (.cells #[] 2))):=(HB2.out.setCell (p:=⟨wr.heap.size,3,none⟩) (Nat.le_refl _) _).alloc (by simp;omega) _
   have HK3:Hid (((w2.setCell ⟨wr.heap.size,3,none⟩ (.slice (some ⟨g2,0,none⟩) (Xb vs c).keys.length p2)).alloc (.cells #[] 2)).ownsRow w.heap.size 9 1 (.slice (some ⟨g2,0,none⟩) (Xb vs c).keys.length p2) (Xb vs c).keys.length ((Xb vs c).keys.map .string)):=by
    have h1:Below (wr.heap.size+1) w2 w2:=Below.refl _ _
    refine World.ownsRow.alloc ?_ _
    refine ⟨HK2.out.1, ?_⟩
    rcases HK2.out.2 with ⟨e,_⟩|⟨g,p,cur,e,q1,q2,q3⟩
    ·simp at e
    ·have eg:g2=g:=by simpa [Value.ownBlock] using (congrArg Value.ownBlock e)
     exact Or.inr ⟨g,p,cur,e,q1,(Below.heap_setCell w2 _ _ g (by rw[←eg];rcases HG2.out with x|x<;>simp[x]<;>omega)).trans q2,q3⟩
   have HI3:Hid (((w2.setCell ⟨wr.heap.size,3,none⟩ (.slice (some ⟨g2,0,none⟩) (Xb vs c).keys.length p2)).alloc (.cells #[] 2)).ownsRow w2.heap.size 2 1 (.slice (some ⟨w2.heap.size,0,none⟩) 0 0) 0 []):=by
    have:=World.ownsRow_lit (base:=w2.heap.size) (e:=2) (size:=1) (w2.setCell ⟨wr.heap.size,3,none⟩ (.slice (some ⟨g2,0,none⟩) (Xb vs c).keys.length p2)) #[] 0 (by simp) (by simp[maxLen]) rfl
    rw[Hid];simpa using this
   have HS3:Hid (((w2.setCell ⟨wr.heap.size,3,none⟩ (.slice (some ⟨g2,0,none⟩) (Xb vs c).keys.length p2)).alloc (.cells #[] 2)).heap.size=w2.heap.size+1):=by rw[Hid];simp
   have f3:=yf 3
   go_wp2_with fail
   generalize ((w2.setCell ⟨wr.heap.size,3,none⟩ (.slice (some ⟨g2,0,none⟩) (Xb vs c).keys.length p2)).alloc (.cells #[] 2))=W3 at *
   have z3:w2.heap.size<W3.heap.size:=by have:=HS3.out;omega
   clear y0 y1 y2 y3 y4 yf f3 HX HW1 HOWN HSRC HS1
   obtain ⟨W0,rfl⟩:∃W0,W0=wr:=⟨_,rfl⟩
   go_loopw [10,11] (fun it i wr=>∃k:Nat,k≤(Xb vs c).kids.length∧i= .int .i64 k∧wr.ownsRow w2.heap.size 2 1 it k (Vr (Xb vs c).kids (-(a:Int)) k)∧Below w2.heap.size W3 wr) (fun _ i _=>(Xb vs c).kids.length-(intOf i).toNat)
   case atStart=>exact ⟨0,Nat.zero_le _,rfl,by rw[Xnu];exact HI3.out,Below.refl _ _⟩
   case round=>
    obtain ⟨k,hkl,rfl,hown,hbk⟩:=hrel
    have zk:=hbk.size
    by_cases hkk:k<(Xb vs c).kids.length
    ·obtain ⟨bk,ok,rfl,hbk',hck⟩:=HKI.out (by omega)
     have hkr:=Zx kk.1 hkk
     obtain ⟨q,hq⟩:∃q:Nat,Xm (Xb vs c).kids k=(q:Int):=⟨(Xm (Xb vs c).kids k).toNat,by omega⟩
     have hqc:q<c:=by omega
     have hcq:wr.cell? ⟨bk,ok+k,none⟩=some (.int .i64 (q:Int)):=by
      rw[←hq];exact (Xc hbk (by omega)).trans ((Xc HB3.out (by omega)).trans (hck k hkk))
     have z4:=(Xc (o:=4) hbk (show W0.heap.size<w2.heap.size by omega)).trans HZ.out.2.2.2.2.1
     have HQ:Hid (Vr (Xb vs c).kids (-(a:Int)) (k+1)=Vr (Xb vs c).kids (-(a:Int)) k++ [.int .i64 ((q:Int)-(a:Int))]):=by
      rw[Hid,Xnv hkk,hq];rfl
     have HBK:=Xa hbk
     clear hck hq hkr
     go_wp2_with (at_builtin;refine wpList_append_own _ rfl _ _ 73 rfl w2.heap.size 2 i2 (.int .i64 0) 1 8 Tryz.underlying73 hi2 hz2 hs2 hy2 rfl (by decide) _ _ _ rfl (hown.alloc _) ⟨wr.heap.size,0,none⟩ 1 1 [.int .i64 ((q:Int)-(a:Int))] rfl rfl ?c1 ?c2 ?c3 ?c4 ?c5 ?_)
     case c1=>
      intro j u hj
      match j,hj with
      |0,hj=>simp at hj;subst hj;simp[Addr.add]
     case c2=>intro u hu;simp at hu;subst hu;rfl
     case c3=>unfold maxLen;omega
     case c4=>omega
     case c5=>simp;omega
     intro v' w5 hown' hgrow _
     have hb5:Below w2.heap.size W3 w5:=(HBK.out.alloc (by omega) _).grown hgrow (by simp;omega) (fun r hr=>by
      rcases hown.2 with ⟨rfl,_⟩|⟨g,cp,cu,rfl,hbg,_⟩
      ·simp[Value.ownBlock] at hr
      ·simp[Value.ownBlock] at hr;omega)
     rw[←HQ.out] at hown'
     clear hgrow hown
     go_wp2_with fail
     go_roundw
     case rel=>exact ⟨k+1,by omega,by go_num,hown',hb5⟩
     case measure=>simp[intOf];omega
    ·obtain rfl:k=(Xb vs c).kids.length:=by omega
     obtain ⟨ai,ci,rfl⟩:=Xj hown
     have hs5:=hbk.size
     have nb2:W0.heap.size<w2.heap.size:=by omega
     have hb5:Below W0.heap.size W0 wr:=HB3.out.trans (hbk.mono (by omega))
     have u0:=(Xc (o:=0) hbk nb2).trans HZ.out.1
     have u1:=(Xc (o:=1) hbk nb2).trans HZ.out.2.1
     have u2:=(Xc (o:=2) hbk nb2).trans HZ.out.2.2.1
     have u3:=(Xc (o:=3) hbk nb2).trans HZ.out.2.2.2.1
     have u4:=(Xc (o:=4) hbk nb2).trans HZ.out.2.2.2.2.1
     have uf:wr.frozen? ⟨W0.heap.size,4,none⟩=false:=(World.frozen?_of_block (hbk.block W0.heap.size nb2)).trans (HZ.out.2.2.2.2.2 4)
     have x0:=(World.cell?_setCell_other wr ⟨W0.heap.size,4,none⟩ ⟨W0.heap.size,0,none⟩ (.slice ai (Xb vs c).kids.length ci) (by simp)).trans u0
     have x1:=(World.cell?_setCell_other wr ⟨W0.heap.size,4,none⟩ ⟨W0.heap.size,1,none⟩ (.slice ai (Xb vs c).kids.length ci) (by simp)).trans u1
     have x2:=(World.cell?_setCell_other wr ⟨W0.heap.size,4,none⟩ ⟨W0.heap.size,2,none⟩ (.slice ai (Xb vs c).kids.length ci) (by simp)).trans u2
     have x3:=(World.cell?_setCell_other wr ⟨W0.heap.size,4,none⟩ ⟨W0.heap.size,3,none⟩ (.slice ai (Xb vs c).kids.length ci) (by simp)).trans u3
     have x4:=World.cell?_setCell_same wr ⟨W0.heap.size,4,none⟩ (.slice ai (Xb vs c).kids.length ci) u4
     have HB6:Hid (Below W0.heap.size W0 (wr.setCell ⟨W0.heap.size,4,none⟩ (.slice ai (Xb vs c).kids.length ci))):=hb5.setCell (Nat.le_refl _) _
     have HN6:=Xa ((HN.out.below HB6.out).below ((Below.refl _ (wr.setCell ⟨W0.heap.size,4,none⟩ (.slice ai (Xb vs c).kids.length ci))).alloc (Nat.le_refl _) (.cells #[.int .i64 (Xb vs c).kind, .int .i64 (Xb vs c).n, .string (Xb vs c).s, .slice (some ⟨g2,0,none⟩) (Xb vs c).keys.length p2, .slice ai (Xb vs c).kids.length ci] 75)))
     have HOW:=Xa hown
     have hrl:(run vs (-(a:Int)) a (c-a)).length≤80:=by rw[Vd];omega
     clear hown
     go_wp2_with (at_builtin;refine wpList_append_own _ rfl _ _ 25 rfl w.heap.size 75 i0 zeroNode 5 80 Tryz.underlying25 hi0 hz0 hs0 hy0 rfl (by decide) _ _ _ rfl HN6.out.row ⟨wr.heap.size,0,none⟩ 1 1 [.int .i64 (Xb vs c).kind, .int .i64 (Xb vs c).n, .string (Xb vs c).s, .slice (some ⟨g2,0,none⟩) (Xb vs c).keys.length p2, .slice ai (Xb vs c).kids.length ci] rfl rfl ?c1 ?c2 ?c3 ?c4 ?c5 ?_)
     case c1=>
      intro j u hj
      have hj5:j<5:=by have:=(List.getElem?_eq_some_iff.1 hj).1;simpa using this
      rw[show (⟨wr.heap.size,0,none⟩:Addr).add j=⟨wr.heap.size,j,none⟩ by simp[Addr.add];omega]
      exact X2x _ _ _ _ j u (by simp) (by simpa using hj)
     case c2=>intro u hu;simp at hu;rcases hu with rfl|rfl|rfl|rfl|rfl<;>rfl
     case c3=>unfold maxLen;omega
     case c4=>omega
     case c5=>simp;omega
     intro v' w6 hown' hgrow _
     have hkA:=Jm (Z2 HK3.out hbk (fun x hx=>by simp[Value.ownBlock] at hx;omega)) (b:=W0.heap.size) (o:=4) (.slice ai (Xb vs c).kids.length ci) (fun x hx=>by simp[Value.ownBlock] at hx;have:=HG2.out;omega)
     have hiA:=Jm (Qc HOW.out (show w.heap.size≤w2.heap.size by omega)) (b:=W0.heap.size) (o:=4) (.slice ai (Xb vs c).kids.length ci) (fun x hx=>by have:=(HOW.out.lt x hx).1;omega)
     rw[Xq8] at hiA
     have hnew:=Nest.snoc (x:=Yb (-(a:Int)) (Xb vs c)) HN6.out (hkA.alloc _) (by simpa [Yb] using hiA.alloc _)
      (fun i hi y hy h2=>by have:=((HN.out.rk i hi).lt y h2).2;have:=HG2.out;simp[Value.ownBlock] at hy;omega)
      (fun i hi y hy h2=>by have:=((HN.out.ri i hi).lt y h2).2;have:=(HOW.out.lt y hy).1;omega) hown' hgrow
     have hbn:Below w.heap.size w w6:=((hbl.trans (HB6.out.mono zs)).alloc (by simp;omega) _).grown hgrow (by simp;omega) (fun r hr=>(HN.out.row.lt r hr).1)
     have hrun:run vs (-(a:Int)) a (c-a)++ [Yb (-(a:Int)) (Xb vs c)]=run vs (-(a:Int)) a (c+1-a):=by rw[show c+1-a=(c-a)+1 by omega,Xz3,show a+(c-a)=c by omega]
     rw[hrun] at hnew
     clear hgrow hown' hkA hiA hrun
     go_wp2_with fail
     go_roundw
     case rel=>exact ⟨c+1,_,_,by omega,by omega,by go_num,hnew,hbn⟩
     case measure=>simp[intOf];omega
  ·obtain rfl:c=n+1:=by omega
   go_wp2_with fail
   go_ret
   exact ⟨_,KV,IV,rfl,HN.out,hbl⟩

theorem From.only {base:Nat} {P:Nat→Prop} {a w w':World} (h:From base a w) (ho:Only P w w') (hP:∀c,P c→c<base):From base a w':=
 ⟨Nat.le_trans h.1 ho.1,fun c h1 h2=>(ho.2 c (by have:=h.1;omega) (fun p=>by have:=hP c p;omega)).trans (h.2 c h1 h2)⟩
theorem Nest.from {base:Nat} {w w':World} {v:Value} {vs:List VN} {KV IV:Nat→Value} (h:Nest base w v vs KV IV) (hf:From base w w'):Nest base w' v vs KV IV:=
 ⟨Vj h.row hf,fun i hi=>Vj (h.rk i hi) hf,fun i hi=>Vj (h.ri i hi) hf,h.dkk,h.dii⟩
def blk (v:Value):Nat:=(v.ownBlock).getD 0
def J8 (vs:List VN) (i:Nat):Nat:=(Xb vs i).keys.length
def J9 (vs:List VN) (i:Nat):Nat:=(Xb vs i).kids.length
def Few (vs:List VN):Prop:=vs.length≤80∧∀i,i<vs.length→(Xb vs i).keys.length≤80∧(Xb vs i).kids.length≤80
theorem Nest.mark {base:Nat} {w:World} {a:Option Addr} {n c:Nat} {vs:List VN} {KV IV:Nat→Value} (h:Nest base w (.slice a n c) vs KV IV) (hl:vs.length=n) (hf:Few vs):
  0<n→a=some ⟨blk (.slice a n c),0,none⟩∧Marky base w (blk (.slice a n c)) n (J8 vs) (J9 vs) (fun i=>blk (KV i)) (fun i=>blk (IV i)):=by
 subst hl
 intro hp
 obtain ⟨g,cap,e,_⟩:=h.row.form hp
 cases e
 exact ⟨rfl,Nest.marky h (by have:=hf.1;omega) (fun i hi=>by have:=hf.2 i hi;omega)⟩
def U3 (r:Value) (n:Nat) (K I:Nat→Value) (x:Nat):Prop:=r.ownBlock=some x∨∃j,j<n∧((K j).ownBlock=some x∨(I j).ownBlock=some x)
theorem Nest.inn {base:Nat} {w:World} {v:Value} {vs:List VN} {KV IV:Nat→Value} (h:Nest base w v vs KV IV) {x:Nat} (hx:U3 v vs.length KV IV x):base≤x∧x<w.heap.size:=by
 rcases hx with hx|⟨j,hj,hx|hx⟩
 ·exact h.row.lt x hx
 ·exact (h.rk j hj).lt x hx
 ·exact (h.ri j hj).lt x hx
theorem Xde {w:World} {base e s n:Nat} {v:Value} {xs:List Value} (h:w.ownsRow base e s v n xs) (hn:0<n):v.ownBlock=some (blk v):=by
 obtain ⟨g,cap,rfl,_⟩:=h.form hn
 rfl
theorem Nest.marked {base:Nat} {w:World} {v:Value} {vs:List VN} {KV IV:Nat→Value} (h:Nest base w v vs KV IV) {x:Nat} (hx:Xav (blk v) vs.length (J8 vs) (J9 vs) (fun i=>blk (KV i)) (fun i=>blk (IV i)) x):U3 v vs.length KV IV x:=by
 obtain ⟨hp,rfl|⟨i,hi,⟨hk,rfl⟩|⟨hk,rfl⟩⟩⟩:=hx
 ·exact Or.inl (Xde h.row hp)
 ·exact Or.inr ⟨i,hi,Or.inl (Xde (h.rk i hi) hk)⟩
 ·exact Or.inr ⟨i,hi,Or.inr (Xde (h.ri i hi) hk)⟩
theorem Nest.far {base base':Nat} {w:World} {v r:Value} {n:Nat} {xs:List Value} {vs:List VN} {KV IV:Nat→Value} (h:Nest base w v vs KV IV) (hr:w.ownsRow base' 25 1 r n xs) {x:Nat} (hx:U3 v vs.length KV IV x):r.ownBlock≠some x:=by
 intro e
 rcases hx with hx|⟨j,hj,hx|hx⟩
 ·rcases Yo hr h.row (by decide) with e2|e2
  ·rw[e] at e2;cases e2
  ·exact e2 (e.trans hx.symm)
 ·rcases Yo hr (h.rk j hj) (by decide) with e2|e2
  ·rw[e] at e2;cases e2
  ·exact e2 (e.trans hx.symm)
 ·rcases Yo hr (h.ri j hj) (by decide) with e2|e2
  ·rw[e] at e2;cases e2
  ·exact e2 (e.trans hx.symm)
def Xj7 {α:Type} (F:Nat→α) (k:Nat) (v:α) (i:Nat):α:=if i=k then v else F i
theorem Xff {α:Type} (F:Nat→α) (k:Nat) (v:α):Xj7 F k v k=v:=if_pos rfl
theorem Xd3 {α:Type} (F:Nat→α) {k i:Nat} (v:α) (h:i≠k):Xj7 F k v i=F i:=if_neg h
structure Rows2 (base:Nat) (w:World) (v:Value) (m:Nat) (L:Nat→List VN) (rs:Nat→Value) (KV IV:Nat→Nat→Value) (lo:Nat→Nat):Prop where
 row:w.ownsRow base 25 1 v m ((List.range m).map rs)
 nest:∀i,i<m→Nest (lo i) w (rs i) (L i) (KV i) (IV i)
 low:∀i,i≤m→base≤lo i
 mono:∀i j,i≤j→j≤m→lo i≤lo j
 top:lo m≤w.heap.size
 inn:∀i,i<m→∀x,U3 (rs i) (L i).length (KV i) (IV i) x→x<lo (i+1)
theorem Rows2.start {base:Nat} {w:World} {v:Value} (h:w.ownsRow base 25 1 v 0 []) (hb:base≤w.heap.size) (L:Nat→List VN):Rows2 base w v 0 L (fun _=>undef) (fun _ _=>undef) (fun _ _=>undef) (fun _=>base):=
 ⟨by simpa using h,fun i hi=>absurd hi (by omega),fun _ _=>Nat.le_refl _,fun _ _ _ _=>Nat.le_refl _,hb,fun i hi=>absurd hi (by omega)⟩
theorem Rows2.below {base:Nat} {w w':World} {v:Value} {m:Nat} {L:Nat→List VN} {rs:Nat→Value} {KV IV:Nat→Nat→Value} {lo:Nat→Nat} (h:Rows2 base w v m L rs KV IV lo) (hb:Below w.heap.size w w'):Rows2 base w' v m L rs KV IV lo:=
 ⟨Z2 h.row hb (fun x hx=>(h.row.lt x hx).2),fun i hi=>(h.nest i hi).below hb,h.low,h.mono,Nat.le_trans h.top hb.size,h.inn⟩
theorem Rows2.from {base:Nat} {w w':World} {v:Value} {m:Nat} {L:Nat→List VN} {rs:Nat→Value} {KV IV:Nat→Nat→Value} {lo:Nat→Nat} (h:Rows2 base w v m L rs KV IV lo) (hf:From base w w'):Rows2 base w' v m L rs KV IV lo:=
 ⟨Vj h.row hf,fun i hi=>(h.nest i hi).from (hf.mono (h.low i (by omega))),h.low,h.mono,Nat.le_trans h.top hf.1,h.inn⟩
theorem Xj8 {m:Nat} {rs:Nat→Value} {r:Value}:(List.range (m+1)).map (Xj7 rs m r)=(List.range m).map rs++ [r]:=by
 rw[List.range_succ,List.map_append]
 congr 1
 ·apply List.map_congr_left
  intro j hj
  exact Xd3 _ _ (by have:=List.mem_range.1 hj;omega)
 ·simp[Xff]
theorem Rows2.snoc {base:Nat} {w w1 w5:World} {v v' r:Value} {m:Nat} {L:Nat→List VN} {rs:Nat→Value} {KV IV:Nat→Nat→Value} {lo:Nat→Nat} {K I:Nat→Value} {o:Obj} (h:Rows2 base w v m L rs KV IV lo) (hb:Below w.heap.size w w1) (hn:Nest w.heap.size w1 r (L m) K I)
  (hown:w5.ownsRow base 25 1 v' (m+1) ((List.range m).map rs++ [r])) (hg:(w1.alloc o).grownBy w5 v.ownBlock):
  Rows2 base w5 v' (m+1) L (Xj7 rs m r) (Xj7 KV m K) (Xj7 IV m I) (fun i=>if i<m then lo i else if i=m then w.heap.size else w1.heap.size):=by
 have h1:=h.below hb
 have hg1:w1.grownBy w5 v.ownBlock:=(World.grownBy_alloc w1 o _).trans hg
 have hs:=hb.size
 have hgs:=hg1.size
 have kept:∀{b:Nat} {u:Value} {vs:List VN} {A C:Nat→Value},Nest b w1 u vs A C→Nest b w5 u vs A C:=fun hx=>hx.kept hg1 (Yo hx.row h1.row (by decide)) (fun i hi=>Yo (hx.rk i hi) h1.row (by decide)) (fun i hi=>Yo (hx.ri i hi) h1.row (by decide))
 refine ⟨by rw[Xj8];exact hown,fun i hi=> ?_,fun i hi=> ?_,fun i j hij hj=> ?_, ?_,fun i hi x hx=> ?_⟩
 ·by_cases e:i=m
  ·subst e
   simp only[Xff,Nat.lt_irrefl,if_true,if_false]
   exact kept hn
  ·simp only[Xd3 _ _ e,if_pos (show i<m by omega)]
   exact kept (h1.nest i (by omega))
 ·have hl:=h.low m (Nat.le_refl _)
  have ht:=h.top
  by_cases e:i<m
  ·simp only[if_pos e];exact h.low i (by omega)
  ·by_cases e2:i=m
   ·simp only[if_neg e,if_pos e2];omega
   ·simp only[if_neg e,if_neg e2];omega
 ·have ht:=h.top
  by_cases e:j<m
  ·simp only[if_pos e,if_pos (show i<m by omega)];exact h.mono i j hij (by omega)
  ·by_cases e1:i<m
   ·have:=h.mono i m (by omega) (Nat.le_refl _)
    by_cases e2:j=m
    ·simp only[if_pos e1,if_neg e,if_pos e2];omega
    ·simp only[if_pos e1,if_neg e,if_neg e2];omega
   ·by_cases e2:j=m
    ·simp only[if_neg e1,if_neg e,if_pos e2,if_pos (show i=m by omega)];omega
    ·by_cases e3:i=m
     ·simp only[if_neg e1,if_neg e,if_neg e2,if_pos e3];omega
     ·simp only[if_neg e1,if_neg e,if_neg e2,if_neg e3];omega
 ·simp only[if_neg (show ¬m+1<m by omega),if_neg (show ¬m+1=m by omega)];omega
 ·have ht:=h.top
  by_cases e:i=m
  ·subst e
   simp only[Xff] at hx
   simp only[if_neg (show ¬i+1<i by omega),if_neg (show ¬i+1=i by omega)]
   exact (hn.inn hx).2
  ·simp only[Xd3 _ _ e] at hx
   have:=h.inn i (by omega) x hx
   by_cases e2:i+1<m
   ·simp only[if_pos e2];exact this
   ·obtain e3:i+1=m:=by omega
    rw[e3] at this
    simp only[if_neg e2,if_pos e3];omega
def U4 (B:Nat) (w:World) (v:Value) (m:Nat) (L:Nat→List VN):Prop:=
 m≤1048576∧∃a cap,v= .slice a m cap∧(0<m→∃b,a=some ⟨b,0,none⟩∧b<B∧∀i,i<m→∃r,w.cell? ⟨b,i,none⟩=some r∧NodesAt B w r (L i))
theorem Rows2.rows {base:Nat} {w:World} {v:Value} {m:Nat} {L:Nat→List VN} {rs:Nat→Value} {KV IV:Nat→Nat→Value} {lo:Nat→Nat} (h:Rows2 base w v m L rs KV IV lo) (hm:m≤80) (hf:∀i,i<m→Few (L i)∧∀j,j<(L i).length→Fits (Xb (L i) j)):U4 w.heap.size w v m L:=by
 obtain ⟨a,c,e⟩:=Xj h.row
 subst e
 refine ⟨by omega,a,c,rfl,fun hp=> ?_⟩
 obtain ⟨g,cap,e,_,hlt⟩:=h.row.form hp
 cases e
 refine ⟨g,rfl,hlt,fun i hi=>⟨rs i, ?_,(h.nest i hi).nodes (by have:=(hf i hi).1.1;omega) (hf i hi).2⟩⟩
 rw[h.row.cellAt i (by omega)]
 simp[hi]

def Laid (base:Nat) (w w':World) (v v':Value) (ns add:List VN) (KV IV KV' IV':Nat→Value):Prop:=
 Nest base w' v' (ns++add) KV' IV'∧w.grownBy w' v.ownBlock∧(v'.ownBlock=v.ownBlock∨∃g,v'.ownBlock=some g∧w.heap.size≤g)∧(∀j,j<ns.length→KV' j=KV j∧IV' j=IV j)∧
  (∀j,ns.length≤j→j<ns.length+add.length→(∀y,(KV' j).ownBlock=some y→w.heap.size≤y)∧(∀y,(IV' j).ownBlock=some y→w.heap.size≤y))
structure Mid (base:Nat) (w wr:World) (nb:Nat) (v0 v kv:Value) (ns acc:List VN) (ks:List Int) (cs:List Value) (KV0 IV0 KV IV:Nat→Value):Prop where
 hbase:base≤w.heap.size
 v0b:∀y,v0.ownBlock=some y→base≤y
 nest:Nest base wr v (ns++acc) KV IV
 node:wr.ownsRow w.heap.size 75 5 (.slice (some ⟨nb,0,none⟩) 1 1) 1 cs
 kids:wr.ownsRow w.heap.size 2 1 kv ks.length (ks.map (.int .i64))
 vnb:v.ownBlock≠some nb
 frame:w.grownBy wr v0.ownBlock
 vat:v.ownBlock=v0.ownBlock∨∃g,v.ownBlock=some g∧w.heap.size≤g
 old:∀j,j<ns.length→KV j=KV0 j∧IV j=IV0 j
 new:∀j,ns.length≤j→j<ns.length+acc.length→(∀y,(KV j).ownBlock=some y→w.heap.size≤y)∧(∀y,(IV j).ownBlock=some y→w.heap.size≤y)
 ki:∀j,j<ns.length+acc.length→∀y,kv.ownBlock=some y→(IV j).ownBlock≠some y
theorem Xhk {w w':World} {row:Option Nat} (h:Below w.heap.size w w'):w.grownBy w' row:=⟨h.os,h.tape,h.output,h.size,fun k hk _=>h.block k hk⟩
theorem Mid.start {base:Nat} {w w1 w2:World} {v:Value} {ns:List VN} {KV IV:Nat→Value} {c0 c1 c2 c3 c4:Value} (h:Nest base w v ns KV IV) (hb:base≤w.heap.size) (h1:Below w.heap.size w w1)
  (h2:Below (w1.alloc (.cells #[c0,c1,c2,c3,c4] 75)).heap.size (w1.alloc (.cells #[c0,c1,c2,c3,c4] 75)) w2):
  Mid base w w2 w1.heap.size v v (.slice none 0 0) ns [] [] [c0,c1,c2,c3,c4] KV IV KV IV:=by
 have hb2:Below w.heap.size w w2:=(h1.alloc h1.size _).trans (h2.mono (by have:=h1.size;simp;omega))
 have hn:=World.ownsRow_lit (base:=w.heap.size) (e:=75) (size:=5) w1 #[c0,c1,c2,c3,c4] 1 h1.size (by simp[maxLen]) rfl
 refine ⟨hb,fun y hy=>(h.row.lt y hy).1,by simpa using h.below hb2,Z2 hn h2 (fun x hx=> ?_),World.ownsRow_nil _ _ _ _,fun e=> ?_,Xhk hb2,Or.inl rfl,fun j _=>⟨rfl,rfl⟩,fun j h1 h2=> ?_,fun j hj y hy=> ?_⟩
 ·simp[Value.ownBlock] at hx;subst hx;simp
 ·have:=(h.row.lt _ e).2
  have:=h1.size
  omega
 ·simp at h2;omega
 ·simp[Value.ownBlock] at hy
theorem Mid.laid {base:Nat} {w wr w':World} {nb:Nat} {v0 v v' kv:Value} {ns acc add:List VN} {ks:List Int} {cs:List Value} {KV0 IV0 KV IV KV' IV':Nat→Value} (h:Mid base w wr nb v0 v kv ns acc ks cs KV0 IV0 KV IV)
  (l:Laid base wr w' v v' (ns++acc) add KV IV KV' IV'):Mid base w w' nb v0 v' kv ns (acc++add) ks cs KV0 IV0 KV' IV':=by
 obtain ⟨l1,l2,l3,l4,l5⟩:=l
 have hnb:=(h.node.lt nb rfl).2
 have hsz:=h.frame.size
 refine ⟨h.hbase,h.v0b,by rw[←List.append_assoc];exact l1,h.node.kept l2 (Or.inr fun e=>h.vnb e.symm),h.kids.kept l2 (Yo h.kids h.nest.row (by decide)), ?_,h.frame.andThen l2 (fun j hj=> ?_), ?_,fun j hj=> ?_,fun j hj1 hj2=> ?_,fun j hj y hy=> ?_⟩
 ·rcases l3 with e|⟨g,e,hg⟩
  ·rw[e];exact h.vnb
  ·rw[e];intro e2;simp at e2;omega
 ·rcases h.vat with e|⟨g,e,hg⟩
  ·exact Or.inr (e▸hj)
  ·rw[e] at hj;simp at hj;exact Or.inl (by omega)
 ·rcases l3 with e|⟨g,e,hg⟩
  ·rw[e];exact h.vat
  ·exact Or.inr ⟨g,e,by omega⟩
 ·have e:=l4 j (by simp;omega)
  have o:=h.old j hj
  exact ⟨e.1.trans o.1,e.2.trans o.2⟩
 ·by_cases hlt:j<ns.length+acc.length
  ·have e:=l4 j (by simp;omega)
   rw[e.1,e.2]
   exact h.new j hj1 hlt
  ·have e:=l5 j (by simp;omega) (by simp at hj2⊢;omega)
   exact ⟨fun y hy=>Nat.le_trans hsz (e.1 y hy),fun y hy=>Nat.le_trans hsz (e.2 y hy)⟩
 ·by_cases hlt:j<ns.length+acc.length
  ·rw[(l4 j (by simp;omega)).2]
   exact h.ki j hlt y hy
  ·intro e
   have:=(l5 j (by simp;omega) (by simp at hj⊢;omega)).2 y e
   have:=(h.kids.lt y hy).2
   omega
theorem Mid.put {base:Nat} {w wr:World} {nb:Nat} {v0 v kv:Value} {ns acc:List VN} {ks:List Int} {cs:List Value} {KV0 IV0 KV IV:Nat→Value} (h:Mid base w wr nb v0 v kv ns acc ks cs KV0 IV0 KV IV) (j:Nat) (u:Value):
  Mid base w (wr.setCell ⟨nb,j,none⟩ u) nb v0 v kv ns acc ks (cs.set j u) KV0 IV0 KV IV:=by
 have st:=h.node.stored j u
 exact ⟨h.hbase,h.v0b,h.nest.kept st.2 (Or.inr h.vnb) (fun i hi=>Yo (h.nest.rk i hi) h.node (by decide)) (fun i hi=>Yo (h.nest.ri i hi) h.node (by decide)),st.1,h.kids.kept st.2 (Yo h.kids h.node (by decide)),h.vnb,
  h.frame.andThen st.2 (fun j hj=>Or.inl (by cases hj;exact (h.node.lt nb rfl).1)),h.vat,h.old,h.new,h.ki⟩
theorem Mid.kid1 {base:Nat} {w wr w5:World} {nb:Nat} {v0 v kv kv':Value} {ns acc:List VN} {ks:List Int} {cs:List Value} {KV0 IV0 KV IV:Nat→Value} {o:Obj} {q:Int} (h:Mid base w wr nb v0 v kv ns acc ks cs KV0 IV0 KV IV)
  (hown:w5.ownsRow w.heap.size 2 1 kv' (ks.length+1) (ks.map (.int .i64)++ [.int .i64 q])) (hg:(wr.alloc o).grownBy w5 kv.ownBlock) (hat:kv'.ownBlock=kv.ownBlock∨kv'.ownBlock=some (wr.heap.size+1)):
  Mid base w w5 nb v0 v kv' ns acc (ks++ [q]) cs KV0 IV0 KV IV:=by
 have hg1:wr.grownBy w5 kv.ownBlock:=(World.grownBy_alloc wr o _).trans hg
 have hkk:∀i,i<(ns++acc).length→(IV i).ownBlock=none∨(IV i).ownBlock≠kv.ownBlock:=by
  intro i hi
  cases e:kv.ownBlock with
  | none => cases e2 : (IV i).ownBlock with
   |none=>exact Or.inl rfl
   |some y=>exact Or.inr (by simp)
  |some y=>exact Or.inr (h.ki i (by simpa using hi) y e)
 refine ⟨h.hbase,h.v0b,h.nest.kept hg1 (Yo h.nest.row h.kids (by decide)) (fun i hi=>Yo (h.nest.rk i hi) h.kids (by decide)) hkk,h.node.kept hg1 (Yo h.node h.kids (by decide)),by simpa using hown,h.vnb,h.frame.andThen hg1 (fun j hj=>Or.inl (h.kids.lt j hj).1),h.vat,h.old,h.new,fun j hj y hy=> ?_⟩
 rcases hat with e|e
 ·exact h.ki j hj y (e▸hy)
 ·rw[e] at hy
  simp at hy
  intro e2
  have:=((h.nest.ri j (by simpa using hj)).lt y e2).2
  omega
theorem Mid.kid {base:Nat} {w wr w5:World} {nb:Nat} {v0 v kv kv':Value} {ns acc:List VN} {ks:List Int} {cs:List Value} {KV0 IV0 KV IV:Nat→Value} {o:Obj} {q:Int} (h:Mid base w wr nb v0 v kv ns acc ks cs KV0 IV0 KV IV)
  (hown:w5.ownsRow w.heap.size 2 1 kv' (ks.length+1) (ks.map (.int .i64)++ [.int .i64 q])) (hg:(wr.alloc o).grownBy w5 kv.ownBlock) (hat:kv'.ownBlock=kv.ownBlock∨kv'.ownBlock=some (wr.heap.size+1)):
  Mid base w (w5.setCell ⟨nb,4,none⟩ kv') nb v0 v kv' ns acc (ks++ [q]) (cs.set 4 kv') KV0 IV0 KV IV:=(h.kid1 hown hg hat).put 4 kv'
theorem Mid.kid0 {base:Nat} {w wr:World} {nb:Nat} {v0 v kv:Value} {ns acc:List VN} {ks:List Int} {cs:List Value} {KV0 IV0 KV IV:Nat→Value} (h:Mid base w wr nb v0 v kv ns acc ks cs KV0 IV0 KV IV):
  Mid base w (wr.alloc (.cells #[] 2)) nb v0 v (.slice (some ⟨wr.heap.size,0,none⟩) 0 0) ns acc [] cs KV0 IV0 KV IV:=by
 have hg:=World.grownBy_alloc wr (.cells #[] 2) none
 have nn:∀x:Option Nat,x=none∨x≠none:=fun x=>by cases x<;>simp
 have hs:=h.frame.size
 refine ⟨h.hbase,h.v0b,h.nest.kept hg (nn _) (fun _ _=>nn _) (fun _ _=>nn _),h.node.kept hg (nn _),World.ownsRow_lit wr #[] 0 hs (by simp[maxLen]) rfl,h.vnb,h.frame.andThen hg (fun j hj=>by cases hj),h.vat,h.old,h.new,fun j hj y hy e=> ?_⟩
 have:=((h.nest.ri j (by simpa using hj)).lt y e).2
 simp[Value.ownBlock] at hy
 omega
theorem Mid.grow {base:Nat} {w wr w5:World} {nb:Nat} {v0 v kv:Value} {ns acc:List VN} {ks:List Int} {cs:List Value} {KV0 IV0 KV IV:Nat→Value} (h:Mid base w wr nb v0 v kv ns acc ks cs KV0 IV0 KV IV) (hg:wr.grownBy w5 none):
  Mid base w w5 nb v0 v kv ns acc ks cs KV0 IV0 KV IV:=by
 have nn:∀x:Option Nat,x=none∨x≠none:=fun x=>by cases x<;>simp
 exact ⟨h.hbase,h.v0b,h.nest.kept hg (nn _) (fun _ _=>nn _) (fun _ _=>nn _),h.node.kept hg (nn _),h.kids.kept hg (nn _),h.vnb,h.frame.andThen hg (fun j hj=>by cases hj),h.vat,h.old,h.new,h.ki⟩
theorem Mid.fin {base:Nat} {w wr w6:World} {nb:Nat} {v0 v v' kv c3:Value} {ns acc:List VN} {ks:List Int} {cs:List Value} {KV0 IV0 KV IV:Nat→Value} {o:Obj} {x:VN} (h:Mid base w wr nb v0 v kv ns acc ks cs KV0 IV0 KV IV) (hx:x.kids=ks)
  (hk:wr.ownsRow w.heap.size 9 1 c3 x.keys.length (x.keys.map .string)) (fk:∀j,j<ns.length+acc.length→∀y,c3.ownBlock=some y→(KV j).ownBlock≠some y)
  (hown:w6.ownsRow base 75 5 v' ((ns++acc).length+1) (Kl (ns++acc) KV IV++ [.int .i64 x.kind, .int .i64 x.n, .string x.s,c3,kv])) (hg:(wr.alloc o).grownBy w6 v.ownBlock) (hat:v'.ownBlock=v.ownBlock∨v'.ownBlock=some (wr.heap.size+1)):
  Laid base w w6 v0 v' ns (acc++ [x]) KV0 IV0 (upd KV (ns++acc).length c3) (upd IV (ns++acc).length kv):=by
 subst hx
 have hg1:wr.grownBy w6 v.ownBlock:=(World.grownBy_alloc wr o _).trans hg
 have hsz:=h.frame.size
 have hn:=Nest.snoc (x:=x) h.nest (Qc hk h.hbase) (Qc h.kids h.hbase) (fun i hi=>fk i (by simpa using hi)) (fun i hi=>h.ki i (by simpa using hi)) hown hg1
 refine ⟨by rw[←List.append_assoc];exact hn,h.frame.andThen hg1 (fun j hj=> ?_), ?_,fun j hj=> ?_,fun j hj1 hj2=> ?_⟩
 ·rcases h.vat with e|⟨g,e,hg⟩
  ·exact Or.inr (e▸hj)
  ·rw[e] at hj;simp at hj;exact Or.inl (by omega)
 ·rcases hat with e|e
  ·rw[e];exact h.vat
  ·exact Or.inr ⟨_,e,by omega⟩
 ·rw[Z3 _ _ (by simp;omega),Z3 _ _ (by simp;omega)]
  exact h.old j hj
 ·by_cases hlt:j<ns.length+acc.length
  ·rw[Z3 _ _ (by simp;omega),Z3 _ _ (by simp;omega)]
   exact h.new j hj1 hlt
  ·obtain rfl:j=(ns++acc).length:=by simp at hj2⊢;omega
   rw[Vi,Vi]
   exact ⟨fun y hy=>(hk.lt y hy).1,fun y hy=>(h.kids.lt y hy).1⟩
theorem Mid.keepL {base:Nat} {w wr:World} {nb:Nat} {v0 v kv:Value} {ns acc:List VN} {ks:List Int} {cs:List Value} {KV0 IV0 KV IV:Nat→Value} {B:Nat} (h:Mid base w wr nb v0 v kv ns acc ks cs KV0 IV0 KV IV) (hB:B≤base):Below B w wr:=
 (Below.refl _ _).grown h.frame (by have:=h.hbase;omega) (fun k hk=>by have:=h.v0b k hk;omega)
theorem Laid.refl {base:Nat} {w:World} {v:Value} {ns:List VN} {KV IV:Nat→Value} (h:Nest base w v ns KV IV):Laid base w w v v ns [] KV IV KV IV:=
 ⟨by simpa using h,⟨rfl,rfl,rfl,Nat.le_refl _,fun _ _ _=>rfl⟩,Or.inl rfl,fun _ _=>⟨rfl,rfl⟩,fun j h1 h2=>by simp at h2;omega⟩
theorem Laid.trans {base:Nat} {w w1 w2:World} {v v1 v2:Value} {ns add add':List VN} {KV IV KV1 IV1 KV2 IV2:Nat→Value} (h:Laid base w w1 v v1 ns add KV IV KV1 IV1) (k:Laid base w1 w2 v1 v2 (ns++add) add' KV1 IV1 KV2 IV2):Laid base w w2 v v2 ns (add++add') KV IV KV2 IV2:=by
 obtain ⟨h1,h2,h3,h4,h5⟩:=h
 obtain ⟨k1,k2,k3,k4,k5⟩:=k
 have hs:=h2.size
 refine ⟨by rw[←List.append_assoc];exact k1,h2.andThen k2 (fun j hj=> ?_), ?_,fun j hj=> ?_,fun j hj1 hj2=> ?_⟩
 ·rcases h3 with e|⟨g,e,hg⟩
  ·exact Or.inr (e▸hj)
  ·rw[e] at hj;simp at hj;exact Or.inl (by omega)
 ·rcases k3 with e|⟨g,e,hg⟩
  ·rw[e];exact h3
  ·exact Or.inr ⟨g,e,by omega⟩
 ·have e:=k4 j (by simp;omega)
  have o:=h4 j hj
  exact ⟨e.1.trans o.1,e.2.trans o.2⟩
 ·by_cases hlt:j<ns.length+add.length
  ·have e:=k4 j (by simp;omega)
   rw[e.1,e.2]
   exact h5 j hj1 hlt
  ·have e:=k5 j (by simp;omega) (by simp at hj2⊢;omega)
   exact ⟨fun y hy=>Nat.le_trans hs (e.1 y hy),fun y hy=>Nat.le_trans hs (e.2 y hy)⟩
theorem Laid.below {base B:Nat} {w w1:World} {v v1:Value} {ns add:List VN} {KV IV KV1 IV1:Nat→Value} (h:Laid base w w1 v v1 ns add KV IV KV1 IV1) (hv:∀y,v.ownBlock=some y→base≤y) (hB:B≤base) (hb:base≤w.heap.size):Below B w w1:=
 (Below.refl _ _).grown h.2.1 (by omega) (fun k hk=>by have:=hv k hk;omega)

inductive VT where
 |mk (kind n:Int) (s:ByteArray) (keys:List ByteArray) (kids:List VT)
def VT.zero:VT:= .mk 0 0 ByteArray.empty [] []
def Yl (l:List VT) (j:Nat):VT:=l.getD j VT.zero
def Ji (B:Nat) (w:World) (it:Value) (n:Nat) (P:Nat→Value→Prop):Prop:=
 n≤100000∧∃a cap,it= .slice a n cap∧(0<n→∃b,a=some ⟨b,0,none⟩∧b<B∧∀j,j<n→∃t x,w.cell? ⟨b,j,none⟩=some (.iface t x)∧P j (.iface t x))
def TreeAt (B:Nat) (w:World):Nat→VT→Value→Prop
 |0,_,_=>False
 | f + 1, .mk kind n s keys kids, v =>
  (kind=1∧n=0∧s=ByteArray.empty∧keys= []∧kids= []∧v= .iface 160 (.agg #[]))∨
  (kind=2∧s=ByteArray.empty∧keys= []∧kids= []∧v= .iface 113 (.agg #[.int .i64 n]))∨
  (kind=3∧s=ByteArray.empty∧keys= []∧kids= []∧v= .iface 114 (.agg #[.int .i64 n]))∨
  (kind=4∧n=0∧keys= []∧kids= []∧v= .iface 116 (.agg #[.string s]))∨
  (kind=5∧n=0∧s=ByteArray.empty∧keys= []∧∃it,v= .iface 158 (.agg #[it])∧Ji B w it kids.length (fun j u=>TreeAt B w f (Yl kids j) u))∨
  (kind=6∧n=0∧s=ByteArray.empty∧∃ks it,v= .iface 118 (.agg #[ks,it])∧StrsAt B w ks keys∧Ji B w it kids.length (fun j u=>TreeAt B w f (Yl kids j) u))
theorem TreeAt.keep {B B':Nat} {w w':World} (hk:∀k,k<B→w'.heap[k]? =w.heap[k]?) (hB:B≤B'):∀{f:Nat} {t:VT} {v:Value},TreeAt B w f t v→TreeAt B' w' f t v:=by
 intro f
 induction f with
 |zero=>intro t v h;exact h.elim
 | succ f ih =>
  intro t v h
  obtain ⟨kind,n,s,keys,kids⟩:=t
  have hc:∀b j,b<B→w'.cell? ⟨b,j,none⟩=w.cell? ⟨b,j,none⟩:=fun b j hb=>World.cell?_of_block (hk b hb)
  have hit:∀it,Ji B w it kids.length (fun j u=>TreeAt B w f (Yl kids j) u)→Ji B' w' it kids.length (fun j u=>TreeAt B' w' f (Yl kids j) u):=by
   rintro it ⟨h0,a,cap,e,hx⟩
   refine ⟨h0,a,cap,e,fun hn=> ?_⟩
   obtain ⟨b,ea,h2,h3⟩:=hx hn
   refine ⟨b,ea,by omega,fun j hj=> ?_⟩
   obtain ⟨t,x,hcc,hv⟩:=h3 j hj
   exact ⟨t,x,(hc b j h2).trans hcc,ih hv⟩
  rcases h with h|h|h|h|⟨h1,h2,h3,h4,it,e,hi⟩|⟨h1,h2,h3,ks,it,e,hs,hi⟩
  ·exact Or.inl h
  ·exact Or.inr (Or.inl h)
  ·exact Or.inr (Or.inr (Or.inl h))
  ·exact Or.inr (Or.inr (Or.inr (Or.inl h)))
  ·exact Or.inr (Or.inr (Or.inr (Or.inr (Or.inl ⟨h1,h2,h3,h4,it,e,hit it hi⟩))))
  ·exact Or.inr (Or.inr (Or.inr (Or.inr (Or.inr ⟨h1,h2,h3,ks,it,e,(hs.keep (lo:=B) (B:=B) (fun k _ hk'=>hk k hk') (Nat.le_refl _)).wide hB,hit it hi⟩))))
def Zr (F:VT→Nat→List VN) (sh:Nat):List VT→List VN→List Int→List VN×List Int
 | [],acc,ks=>(acc,ks)
 |k::r,acc,ks=>Zr F sh r (acc++F k (sh+acc.length)) (ks++ [((sh+(acc++F k (sh+acc.length)).length:Nat):Int)-1])
def Yi:Nat→VT→Nat→List VN
 |0,_,_=> []
 |f+1, .mk kind n s keys kids,sh=>(Zr (Yi f) sh kids [] []).1++ [{kind:=kind,n:=n,s:=s,keys:=keys,kids:=(Zr (Yi f) sh kids [] []).2}]
theorem Uy (F:VT→Nat→List VN) (sh:Nat):∀(l m:List VT) (acc:List VN) (ks:List Int),Zr F sh (l++m) acc ks=Zr F sh m (Zr F sh l acc ks).1 (Zr F sh l acc ks).2:=by
 intro l
 induction l with
 |nil=>intro m acc ks;rfl
 |cons k r ih=>intro m acc ks;exact ih m _ _
theorem Xmc (F:VT→Nat→List VN) (sh:Nat):∀(l:List VT) (acc:List VN) (ks:List Int),acc.length≤(Zr F sh l acc ks).1.length:=by
 intro l
 induction l with
 |nil=>intro acc ks;exact Nat.le_refl _
 |cons k r ih=>intro acc ks;exact Nat.le_trans (by simp) (ih _ _)
theorem Xmd (F:VT→Nat→List VN) (sh:Nat):∀(l:List VT) (acc:List VN) (ks:List Int),(Zr F sh l acc ks).2.length=ks.length+l.length:=by
 intro l
 induction l with
 |nil=>intro acc ks;rfl
 |cons k r ih=>intro acc ks;rw[Zr,ih];simp;omega
def X6 (f sh:Nat) (l:List VT) (k:Nat):List VN:=(Zr (Yi f) sh (l.take k) [] []).1
def ksT (f sh:Nat) (l:List VT) (k:Nat):List Int:=(Zr (Yi f) sh (l.take k) [] []).2
theorem Qs (f sh:Nat) (l:List VT):X6 f sh l 0= []:=by simp[X6,Zr]
theorem Ja (f sh:Nat) (l:List VT):ksT f sh l 0= []:=by simp[ksT,Zr]
theorem Xda (f sh:Nat) (l:List VT) {k:Nat} (h:k≤l.length):(ksT f sh l k).length=k:=by
 unfold ksT;rw[Xmd];simp;omega
theorem Xdv {l:List VT} {k:Nat} (h:k<l.length):l.take (k+1)=l.take k++ [Yl l k]:=by
 rw[List.take_add_one,List.getElem?_eq_getElem h]
 simp[Yl,h]
theorem Zi (f sh:Nat) {l:List VT} {k:Nat} (h:k<l.length):X6 f sh l (k+1)=X6 f sh l k++Yi f (Yl l k) (sh+(X6 f sh l k).length):=by
 unfold X6;rw[Xdv h,Uy];rfl
theorem Qy (f sh:Nat) {l:List VT} {k:Nat} (h:k<l.length):ksT f sh l (k+1)=ksT f sh l k++ [((sh+(X6 f sh l (k+1)).length:Nat):Int)-1]:=by
 rw[Zi f sh h];unfold ksT X6;rw[Xdv h,Uy];rfl
theorem Xbo (f sh:Nat) (l:List VT) (k:Nat):(X6 f sh l k).length≤(X6 f sh l l.length).length:=by
 have e:l.take l.length=l.take k++l.drop k:=by simp
 have h:=Uy (Yi f) sh (l.take k) (l.drop k) [] []
 unfold X6
 rw[e,h]
 exact Xmc _ _ _ _ _
theorem Q1 (f:Nat) (kind n:Int) (s:ByteArray) (keys:List ByteArray) (kids:List VT) (sh:Nat):
  Yi (f+1) (.mk kind n s keys kids) sh=X6 f sh kids kids.length++ [{kind:=kind,n:=n,s:=s,keys:=keys,kids:=ksT f sh kids kids.length}]:=by
 simp[Yi,X6,ksT]
theorem Xnc {B:Nat} {w:World} {f:Nat} {t:VT} {v:Value} (h:TreeAt B w f t v) (sh:Nat):0<(Yi f t sh).length:=by
 cases f with
 |zero=>exact h.elim
 |succ f=>obtain ⟨kind,n,s,keys,kids⟩:=t;rw[Q1];simp
def Xw (vs:List VN):Nat→Nat→VT
 |0,_=>VT.zero
 |f+1,i=> .mk (Xb vs i).kind (Xb vs i).n (Xb vs i).s (Xb vs i).keys ((Xb vs i).kids.map fun k=>Xw vs f k.toNat)
theorem Xnd (vs:List VN) (f sh:Nat) (ih:∀i s,lay vs f i s=Yi f (Xw vs f i) s):∀(l:List Int) (acc:List VN) (ks:List Int),Gc (lay vs f) sh l acc ks=Zr (Yi f) sh (l.map fun k=>Xw vs f k.toNat) acc ks:=by
 intro l
 induction l with
 |nil=>intro acc ks;rfl
 |cons k r ihr=>intro acc ks;rw[Gc,List.map_cons,Zr,ihr,ih]
theorem Wo (vs:List VN):∀(f i sh:Nat),lay vs f i sh=Yi f (Xw vs f i) sh:=by
 intro f
 induction f with
 |zero=>intro i sh;rfl
 | succ f ih =>
  intro i sh
  rw[lay,Xw,Yi,Xnd vs f sh ih]
theorem Ud {l:List Int} {g:Int→VT} {j:Nat} (h:j<l.length):Yl (l.map g) j=g (Xm l j):=by
 rw[Zd h];simp[Yl,h]
theorem ValIs.tree {lo B:Nat} {w:World} {vs:List VN} (hlo:lo≤B) (hr:∀k,k<vs.length→X9 (Xb vs k)=true∧Z8 vs k=true) (hk:∀k,k<vs.length→(Xb vs k).kids.length≤k) (h80:vs.length≤80):∀{f i:Nat} {v:Value},i<vs.length→ValIs lo B w vs f i v→TreeAt B w f (Xw vs f i) v:=by
 intro f
 induction f with
 |zero=>intro i v _ h;exact h.elim
 | succ f ih =>
  intro i v hi h
  have hit:∀it,Un lo B w it (Xb vs i).kids.length (fun j u=>ValIs lo B w vs f (Xm (Xb vs i).kids j).toNat u)→Ji B w it ((Xb vs i).kids.map fun k=>Xw vs f k.toNat).length (fun j u=>TreeAt B w f (Yl ((Xb vs i).kids.map fun k=>Xw vs f k.toNat) j) u):=by
   rintro it ⟨a,cap,e,hx⟩
   refine ⟨by have:=hk i hi;simp;omega,a,cap,by simpa using e,fun hn=> ?_⟩
   rw[List.length_map] at hn
   obtain ⟨b,ea,h1,h2,h3⟩:=hx hn
   refine ⟨b,ea,h2,fun j hj=> ?_⟩
   rw[List.length_map] at hj
   obtain ⟨t,x,hcc,hv⟩:=h3 j hj
   refine ⟨t,x,hcc, ?_⟩
   show TreeAt B w f (Yl ((Xb vs i).kids.map fun k=>Xw vs f k.toNat) j) (.iface t x)
   rw[Ud hj]
   have hb:=Zx (hr i hi).2 hj
   exact ih (by omega) hv
  have hn:=(hr i hi).1
  unfold X9 Yv at hn
  have es:∀s:ByteArray,s.toList= []→s=ByteArray.empty:=fun s h=>by
   cases s with|mk d=>rw[ByteArray.toList_eq] at h;simp at h;subst h;rfl
  simp only[Bool.and_eq_true,Bool.not_eq_true',Bool.and_eq_false_iff,decide_eq_false_iff_not,Decidable.not_not,Nat.not_lt,Nat.le_zero,List.length_eq_zero_iff] at hn
  obtain ⟨⟨⟨⟨n1,n2⟩,n3⟩,n4⟩,_⟩:=hn
  rw[Xw]
  rcases h with ⟨k1,e⟩|⟨k2,e⟩|⟨k3,e⟩|⟨k4,e⟩|⟨k5,it,e,hi⟩|⟨k6,ks,it,e,hs,hi⟩
  ·exact Or.inl ⟨k1,by omega,es _ (by rcases n2 with h|h;omega;exact h),by rcases n3 with h|h;omega;exact h,by rcases n4 with (h|h)|h;omega;omega;rw[h];rfl,e⟩
  ·exact Or.inr (Or.inl ⟨k2,es _ (by rcases n2 with h|h;omega;exact h),by rcases n3 with h|h;omega;exact h,by rcases n4 with (h|h)|h;omega;omega;rw[h];rfl,e⟩)
  ·exact Or.inr (Or.inr (Or.inl ⟨k3,es _ (by rcases n2 with h|h;omega;exact h),by rcases n3 with h|h;omega;exact h,by rcases n4 with (h|h)|h;omega;omega;rw[h];rfl,e⟩))
  ·exact Or.inr (Or.inr (Or.inr (Or.inl ⟨k4,by omega,by rcases n3 with h|h;omega;exact h,by rcases n4 with (h|h)|h;omega;omega;rw[h];rfl,e⟩)))
  ·exact Or.inr (Or.inr (Or.inr (Or.inr (Or.inl ⟨k5,by omega,es _ (by rcases n2 with h|h;omega;exact h),by rcases n3 with h|h;omega;exact h,it,e,hit it hi⟩))))
  ·exact Or.inr (Or.inr (Or.inr (Or.inr (Or.inr ⟨k6,by omega,es _ (by rcases n2 with h|h;omega;exact h),ks,it,e,hs.wide hlo,hit it hi⟩))))

def ItemsG (lo B:Nat) (w:World) (it:Value) (n:Nat) (P:Nat→Value→Prop):Prop:=
 ∃a cap,it= .slice a n cap∧(0<n→∃b,a=some ⟨b,0,none⟩∧True∧b<B∧∀j,j<n→∃t x,w.cell? ⟨b,j,none⟩=some (.iface t x)∧P j (.iface t x))
def ValG (lo B:Nat) (w:World) (vs:List VN):Nat→Nat→Value→Prop
 |0,_,_=>False
 | f + 1, i, v =>
  ((Xb vs i).kind=1∧v= .iface 160 (.agg #[]))∨
  ((Xb vs i).kind=2∧v= .iface 113 (.agg #[.int .i64 (Xb vs i).n]))∨
  ((Xb vs i).kind=3∧v= .iface 114 (.agg #[.int .i64 (Xb vs i).n]))∨
  ((Xb vs i).kind=4∧v= .iface 116 (.agg #[.string (Xb vs i).s]))∨
  ((Xb vs i).kind=5∧∃it,v= .iface 158 (.agg #[it])∧ItemsG lo B w it (Xb vs i).kids.length (fun j u=>ValG lo B w vs f (Xm (Xb vs i).kids j).toNat u))∨
  ((Xb vs i).kind=6∧∃ks it,v= .iface 118 (.agg #[ks,it])∧StrsAt B w ks (Xb vs i).keys∧ItemsG lo B w it (Xb vs i).kids.length (fun j u=>ValG lo B w vs f (Xm (Xb vs i).kids j).toNat u))
theorem ValG.iface {lo B:Nat} {w:World} {vs:List VN} {f i:Nat} {v:Value} (h:ValG lo B w vs f i v):∃t x,v= .iface t x:=by
 cases f with
 |zero=>exact h.elim
 | succ f =>
  rcases h with ⟨_,rfl⟩|⟨_,rfl⟩|⟨_,rfl⟩|⟨_,rfl⟩|⟨_,it,rfl,_⟩|⟨_,ks,it,rfl,_⟩<;>exact ⟨_,_,rfl⟩
theorem Qg {B:Nat} {w w':World} (h:Below B w w'):∀k,k<B→w'.heap[k]? =w.heap[k]? :=fun k hk=>h.block k hk
theorem ValG.keep {lo B B':Nat} {w w':World} {vs:List VN} (hk:∀k,k<B→w'.heap[k]? =w.heap[k]?) (hB:B≤B') (hlo:lo≤B):∀{f i:Nat} {v:Value},ValG lo B w vs f i v→ValG lo B' w' vs f i v:=by
 intro f
 induction f with
 |zero=>intro i v h;exact h.elim
 | succ f ih =>
  intro i v h
  have hit:∀it,ItemsG lo B w it (Xb vs i).kids.length (fun j u=>ValG lo B w vs f (Xm (Xb vs i).kids j).toNat u)→ItemsG lo B' w' it (Xb vs i).kids.length (fun j u=>ValG lo B' w' vs f (Xm (Xb vs i).kids j).toNat u):=by
   rintro it ⟨a,cap,e,hx⟩
   refine ⟨a,cap,e,fun hn=> ?_⟩
   obtain ⟨b,ea,h1,h2,h3⟩:=hx hn
   refine ⟨b,ea,h1,by omega,fun j hj=> ?_⟩
   obtain ⟨t,x,hc,hv⟩:=h3 j hj
   exact ⟨t,x,(World.cell?_of_block (hk b h2)).trans hc,ih hv⟩
  rcases h with h|h|h|h|⟨hk5,it,e,hi⟩|⟨hk6,ks,it,e,hs,hi⟩
  ·exact Or.inl h
  ·exact Or.inr (Or.inl h)
  ·exact Or.inr (Or.inr (Or.inl h))
  ·exact Or.inr (Or.inr (Or.inr (Or.inl h)))
  ·exact Or.inr (Or.inr (Or.inr (Or.inr (Or.inl ⟨hk5,it,e,hit it hi⟩))))
  ·exact Or.inr (Or.inr (Or.inr (Or.inr (Or.inr ⟨hk6,ks,it,e,(hs.keep (lo:=B) (B:=B) (fun k _ hk'=>hk k hk') (Nat.le_refl _)).wide hB,hit it hi⟩))))
theorem ValG.more {lo B:Nat} {w:World} {vs:List VN}:∀{f g i:Nat} {v:Value},f≤g→ValG lo B w vs f i v→ValG lo B w vs g i v:=by
 intro f
 induction f with
 |zero=>intro g i v _ h;exact h.elim
 | succ f ih =>
  intro g i v hfg h
  match g,hfg with
  | g + 1, hfg =>
   have hit:∀it,ItemsG lo B w it (Xb vs i).kids.length (fun j u=>ValG lo B w vs f (Xm (Xb vs i).kids j).toNat u)→ItemsG lo B w it (Xb vs i).kids.length (fun j u=>ValG lo B w vs g (Xm (Xb vs i).kids j).toNat u):=by
    rintro it ⟨a,cap,e,hx⟩
    refine ⟨a,cap,e,fun hn=> ?_⟩
    obtain ⟨b,ea,h1,h2,h3⟩:=hx hn
    refine ⟨b,ea,h1,h2,fun j hj=> ?_⟩
    obtain ⟨t,x,hc,hv⟩:=h3 j hj
    exact ⟨t,x,hc,ih (by omega) hv⟩
   rcases h with h|h|h|h|⟨hk5,it,e,hi⟩|⟨hk6,ks,it,e,hs,hi⟩
   ·exact Or.inl h
   ·exact Or.inr (Or.inl h)
   ·exact Or.inr (Or.inr (Or.inl h))
   ·exact Or.inr (Or.inr (Or.inr (Or.inl h)))
   ·exact Or.inr (Or.inr (Or.inr (Or.inr (Or.inl ⟨hk5,it,e,hit it hi⟩))))
   ·exact Or.inr (Or.inr (Or.inr (Or.inr (Or.inr ⟨hk6,ks,it,e,hs,hit it hi⟩))))
theorem ValG.tree {lo B:Nat} {w:World} {vs:List VN} (hlo:lo≤B) (hr:∀k,k<vs.length→X9 (Xb vs k)=true∧Z8 vs k=true) (hk:∀k,k<vs.length→(Xb vs k).kids.length≤k) (h80:vs.length≤80):∀{f i:Nat} {v:Value},i<vs.length→ValG lo B w vs f i v→TreeAt B w f (Xw vs f i) v:=by
 intro f
 induction f with
 |zero=>intro i v _ h;exact h.elim
 | succ f ih =>
  intro i v hi h
  have hit:∀it,ItemsG lo B w it (Xb vs i).kids.length (fun j u=>ValG lo B w vs f (Xm (Xb vs i).kids j).toNat u)→Ji B w it ((Xb vs i).kids.map fun k=>Xw vs f k.toNat).length (fun j u=>TreeAt B w f (Yl ((Xb vs i).kids.map fun k=>Xw vs f k.toNat) j) u):=by
   rintro it ⟨a,cap,e,hx⟩
   refine ⟨by have:=hk i hi;simp;omega,a,cap,by simpa using e,fun hn=> ?_⟩
   rw[List.length_map] at hn
   obtain ⟨b,ea,h1,h2,h3⟩:=hx hn
   refine ⟨b,ea,h2,fun j hj=> ?_⟩
   rw[List.length_map] at hj
   obtain ⟨t,x,hcc,hv⟩:=h3 j hj
   refine ⟨t,x,hcc, ?_⟩
   show TreeAt B w f (Yl ((Xb vs i).kids.map fun k=>Xw vs f k.toNat) j) (.iface t x)
   rw[Ud hj]
   have hb:=Zx (hr i hi).2 hj
   exact ih (by omega) hv
  have hn:=(hr i hi).1
  unfold X9 Yv at hn
  have es:∀s:ByteArray,s.toList= []→s=ByteArray.empty:=fun s h=>by
   cases s with|mk d=>rw[ByteArray.toList_eq] at h;simp at h;subst h;rfl
  simp only[Bool.and_eq_true,Bool.not_eq_true',Bool.and_eq_false_iff,decide_eq_false_iff_not,Decidable.not_not,Nat.not_lt,Nat.le_zero,List.length_eq_zero_iff] at hn
  obtain ⟨⟨⟨⟨n1,n2⟩,n3⟩,n4⟩,_⟩:=hn
  rw[Xw]
  rcases h with ⟨k1,e⟩|⟨k2,e⟩|⟨k3,e⟩|⟨k4,e⟩|⟨k5,it,e,hi⟩|⟨k6,ks,it,e,hs,hi⟩
  ·exact Or.inl ⟨k1,by omega,es _ (by rcases n2 with h|h;omega;exact h),by rcases n3 with h|h;omega;exact h,by rcases n4 with (h|h)|h;omega;omega;rw[h];rfl,e⟩
  ·exact Or.inr (Or.inl ⟨k2,es _ (by rcases n2 with h|h;omega;exact h),by rcases n3 with h|h;omega;exact h,by rcases n4 with (h|h)|h;omega;omega;rw[h];rfl,e⟩)
  ·exact Or.inr (Or.inr (Or.inl ⟨k3,es _ (by rcases n2 with h|h;omega;exact h),by rcases n3 with h|h;omega;exact h,by rcases n4 with (h|h)|h;omega;omega;rw[h];rfl,e⟩))
  ·exact Or.inr (Or.inr (Or.inr (Or.inl ⟨k4,by omega,by rcases n3 with h|h;omega;exact h,by rcases n4 with (h|h)|h;omega;omega;rw[h];rfl,e⟩)))
  ·exact Or.inr (Or.inr (Or.inr (Or.inr (Or.inl ⟨k5,by omega,es _ (by rcases n2 with h|h;omega;exact h),by rcases n3 with h|h;omega;exact h,it,e,hit it hi⟩))))
  ·exact Or.inr (Or.inr (Or.inr (Or.inr (Or.inr ⟨k6,by omega,es _ (by rcases n2 with h|h;omega;exact h),ks,it,e,hs,hit it hi⟩))))
theorem TreeAt.val {lo B:Nat} {w:World} {vs:List VN}:∀{f i:Nat} {v:Value},TreeAt B w f (Xw vs f i) v→ValG lo B w vs f i v:=by
 intro f
 induction f with
 |zero=>intro i v h;exact h.elim
 | succ f ih =>
  intro i v h
  rw[Xw] at h
  have hit:∀it,Ji B w it ((Xb vs i).kids.map fun k=>Xw vs f k.toNat).length (fun j u=>TreeAt B w f (Yl ((Xb vs i).kids.map fun k=>Xw vs f k.toNat) j) u)→ItemsG lo B w it (Xb vs i).kids.length (fun j u=>ValG lo B w vs f (Xm (Xb vs i).kids j).toNat u):=by
   rintro it ⟨_,a,cap,e,hx⟩
   rw[List.length_map] at e hx
   refine ⟨a,cap,e,fun hn=> ?_⟩
   obtain ⟨b,ea,h2,h3⟩:=hx hn
   refine ⟨b,ea,trivial,h2,fun j hj=> ?_⟩
   obtain ⟨t,x,hc,hv⟩:=h3 j hj
   refine ⟨t,x,hc,ih ?_⟩
   have hv':TreeAt B w f (Yl ((Xb vs i).kids.map fun k=>Xw vs f k.toNat) j) (.iface t x):=hv
   rwa [Ud hj] at hv'
  rcases h with ⟨k,_,_,_,_,e⟩|⟨k,_,_,_,e⟩|⟨k,_,_,_,e⟩|⟨k,_,_,_,e⟩|⟨k,_,_,_,it,e,hi⟩|⟨k,_,_,ks,it,e,hs,hi⟩
  ·exact Or.inl ⟨k,e⟩
  ·exact Or.inr (Or.inl ⟨k,e⟩)
  ·exact Or.inr (Or.inr (Or.inl ⟨k,e⟩))
  ·exact Or.inr (Or.inr (Or.inr (Or.inl ⟨k,e⟩)))
  ·exact Or.inr (Or.inr (Or.inr (Or.inr (Or.inl ⟨k,it,e,hit it hi⟩))))
  ·exact Or.inr (Or.inr (Or.inr (Or.inr (Or.inr ⟨k,ks,it,e,hs,hit it hi⟩))))

def Yw (vs:List VN) (n:Nat):List VN:=run vs (-(trF (tr (Yj vs) n))) (trF (tr (Yj vs) n)).toNat (n+1-(trF (tr (Yj vs) n)).toNat)
theorem Ve {vs:List VN} (h:okB vs=true):∀k,k<vs.length→Z8 vs k=true∧(Xb vs k).kids.length≤80∧(Xb vs k).keys.length≤80:=by
 intro k hk
 obtain ⟨h1,h2,_,h4⟩:=Xp h
 have hn:=h2 k hk
 have:=h4 k hk
 refine ⟨hn.2,by omega, ?_⟩
 by_cases e:(Xb vs k).kind=6
 ·have hb:=hn.1
  unfold X9 Zk at hb
  simp[e] at hb
  omega
 ·have hb:=hn.1
  unfold X9 Yv at hb
  simp[e] at hb
  have:=hb.1.1.2
  simp[this]
theorem Uc {vs:List VN} (hok:okB vs=true) {f m:Nat} (hf:m<f) (hm:m<vs.length):Yi f (Xw vs f m) 0=Yw vs m∧(Yw vs m).length≤80:=by
 obtain ⟨p1,_,p3,_⟩:=Xp hok
 obtain ⟨⟨a0,h0⟩,htr⟩:=p3 m hm
 have e:Yw vs m=run vs (-(a0:Int)) a0 (m+1-a0):=by rw[Yw,htr];simp[trF]
 rw[←Wo,Xbn vs f m 0 a0 h0 hf htr,e]
 exact ⟨by simp,by rw[Vd];omega⟩
theorem Xv4 {vs:List VN} (hok:okB vs=true) (hf:∀i,i<vs.length→Fits (Xb vs i)) {m:Nat} (hm:m<vs.length):∀i,i<(Yw vs m).length→Fits (Xb (Yw vs m) i)∧(Xb (Yw vs m) i).keys.length≤80∧(Xb (Yw vs m) i).kids.length≤80:=by
 obtain ⟨p1,p2,p3,p4⟩:=Xp hok
 obtain ⟨⟨a0,h0⟩,htr⟩:=p3 m hm
 have e:Yw vs m=run vs (-(a0:Int)) a0 (m+1-a0):=by rw[Yw,htr];simp[trF]
 rw[e]
 intro i hi
 rw[Vd] at hi
 have en:Xb (run vs (-(a0:Int)) a0 (m+1-a0)) i=Yb (-(a0:Int)) (Xb vs (a0+i)):=by
  unfold run
  conv=>lhs;unfold Xb
  rw[List.getD_eq_getElem?_getD,List.getElem?_map,List.getElem?_range' (by omega)]
  simp[Xb]
 rw[en]
 have f:=hf (a0+i) (by omega)
 have kf:=Ve hok (a0+i) (by omega)
 refine ⟨⟨f.keysN,f.keysS,by simpa [Yb] using f.kidsN,fun j hj=> ?_,f.size,f.klo,f.khi,f.nlo,f.nhi⟩,kf.2.2,by simpa [Yb] using kf.2.1⟩
 have hj':j<(Xb vs (a0+i)).kids.length:=by simpa [Yb] using hj
 have hb:=Zx kf.1 hj'
 have ei:Xm (Yb (-(a0:Int)) (Xb vs (a0+i))).kids j=Xm (Xb vs (a0+i)).kids j+ -(a0:Int):=by
  rw[Zd hj,Zd hj'];simp[Yb]
 rw[ei]
 omega

theorem Xus {K:Nat→List Int}:∀(l:List Int) (b h:Nat) (q:Nat×Nat),l.foldl (X7 (tr K)) (some (b,h))=some q→h≤q.2∧q.1≤b∧∀m,q.1≤m→m<b→∃k p,tr K k=some p∧p.1≤m∧m≤k∧q.1≤p.1∧p.2≤q.2∧k<b:=by
 intro l
 induction l with
 |nil=>intro b h q e;simp at e;subst e;exact ⟨Nat.le_refl _,Nat.le_refl _,fun m h1 h2=>absurd h1 (by simp only;omega)⟩
 | cons k l ih =>
  intro b h q e
  obtain ⟨p,h1,h2,h3,h4⟩:=Qi e
  have hp:=Kv h3
  obtain ⟨i1,i2,i3⟩:=ih _ _ _ h4
  refine ⟨by omega,by omega,fun m hm1 hm2=> ?_⟩
  by_cases c:m<p.1
  ·obtain ⟨k',p',a1,a2,a3,a4,a5,a6⟩:=i3 m hm1 c
   exact ⟨k',p',a1,a2,a3,a4,a5,by omega⟩
  ·exact ⟨b-1,p,h3,by omega,by omega,i2,by omega,by omega⟩
theorem Xkg {K:Nat→List Int} {n:Nat} {p:Nat×Nat} (h:tr K n=some p):∃q,(K n).reverse.foldl (X7 (tr K)) (some (n,0))=some q∧p=(q.1,q.2+1):=by
 rw[Ua] at h
 cases e:(K n).reverse.foldl (X7 (tr K)) (some (n,0)) with
 |none=>simp[e] at h
 |some q=>simp[e] at h;exact ⟨q,rfl,h.symm⟩
theorem Xoq {K:Nat→List Int}:∀(N n:Nat) (p:Nat×Nat),n<N→tr K n=some p→∀m,p.1≤m→m≤n→∃r,tr K m=some r∧p.1≤r.1∧r.2≤p.2:=by
 intro N
 induction N with
 |zero=>intro n p h;omega
 | succ N ih =>
  intro n p hN h m h1 h2
  by_cases e:m=n
  ·subst e;exact ⟨p,h,Nat.le_refl _,Nat.le_refl _⟩
  ·obtain ⟨q,hq,rfl⟩:=Xkg h
   obtain ⟨_,_,hc⟩:=Xus _ _ _ _ hq
   obtain ⟨k,r,a1,a2,a3,a4,a5,a6⟩:=hc m h1 (by omega)
   obtain ⟨r',b1,b2,b3⟩:=ih k r (by omega) a1 m a2 a3
   exact ⟨r',b1,by simp only at *;omega,by simp only at *;omega⟩
theorem Xut {T T':Nat→Option (Nat×Nat)} {a N:Nat} (hT:∀m p,T m=some p→p.1≤m) (he:∀m p,a≤m→m<N→T m=some p→a≤p.1→T' (m-a)=some (p.1-a,p.2)):∀(l:List Int) (b h:Nat) (q:Nat×Nat),b≤N→l.foldl (X7 T) (some (b,h))=some q→a≤q.1→(l.map (· + -(a:Int))).foldl (X7 T') (some (b-a,h))=some (q.1-a,q.2):=by
 intro l
 induction l with
 |nil=>intro b h q _ e _;simp at e;subst e;rfl
 | cons k l ih =>
  intro b h q hb e hq
  obtain ⟨p,h1,h2,h3,h4⟩:=Qi e
  have hp:=hT _ _ h3
  have hl:=Xkh hT _ _ _ _ h4
  have ht:=he (b-1) p (by omega) (by omega) h3 (by omega)
  rw[List.map_cons,List.foldl_cons]
  have hs:X7 T' (some (b-a,h)) (k+ -(a:Int))=some (p.1-a,max h p.2):=by
   simp only[X7]
   rw[if_pos ⟨by omega,by omega⟩,show b-a-1=b-1-a by omega,ht]
   rfl
  rw[hs]
  exact ih _ _ _ (by omega) h4 hq
theorem Xeb {vs:List VN} {d:Int} {a n i:Nat} (h:i<n):Xb (run vs d a n) i=Yb d (Xb vs (a+i)):=by
 unfold run
 unfold Xb
 simp[h]
theorem Xrv (d:Int) (x:VN):X9 (Yb d x)=X9 x:=by
 unfold X9 Yv Zk Yb
 simp
theorem Xor {vs:List VN} {q a h:Nat} (ht:tr (Yj vs) q=some (a,h)):∀(N i:Nat),i<N→a+i≤q→∀p,tr (Yj vs) (a+i)=some p→tr (Yj (run vs (-(a:Int)) a (q+1-a))) i=some (p.1-a,p.2):=by
 intro N
 induction N with
 |zero=>intro i h;omega
 | succ N ih =>
  intro i hN hi p hp
  have hap:=Kv ht
  simp only at hap
  obtain ⟨r,hr,h1,_⟩:=Xoq _ _ _ (Nat.lt_succ_self _) ht (a+i) (by simp only;omega) hi
  rw[hp] at hr
  simp only[Option.some.injEq] at hr
  subst hr
  obtain ⟨w,hw,rfl⟩:=Xkg hp
  have hk:Yj (run vs (-(a:Int)) a (q+1-a)) i=(Yj vs (a+i)).map (· + -(a:Int)):=by
   unfold Yj
   rw[Xeb (by omega)]
   rfl
  rw[Ua,hk,←List.map_reverse]
  have:=Xut (T:=tr (Yj vs)) (T':=tr (Yj (run vs (-(a:Int)) a (q+1-a)))) (a:=a) (N:=a+i) (fun m p h=>Kv h)
   (fun m p h1 h2 h3 h4 => by
    have:=ih (m-a) (by omega) (by omega) p (by rw[show a+(m-a)=m by omega];exact h3)
    exact this) _ _ _ _ (Nat.le_refl _) hw h1
  rw[show a+i-a=i by omega] at this
  rw[this]
  rfl
theorem Xec {vs:List VN} (hok:okB vs=true) {m:Nat} (hm:m<vs.length):okB (Yw vs m)=true:=by
 obtain ⟨p1,p2,p3,p4⟩:=Xp hok
 obtain ⟨⟨a0,h0⟩,htr⟩:=p3 m hm
 have e:Yw vs m=run vs (-(a0:Int)) a0 (m+1-a0):=by rw[Yw,htr];simp[trF]
 have ha:=Kv htr
 simp only at ha
 have hroot:∃h,tr (Yj vs) (vs.length-1)=some (0,h)∧h≤8:=by
  unfold okB Jy at hok
  simp only[Bool.and_eq_true] at hok
  have h:=hok.2
  cases e:tr (Yj vs) (vs.length-1) with
  |none=>simp[e] at h
  |some p=>obtain ⟨a,b⟩:=p;simp[e] at h;obtain ⟨rfl,h8⟩:=h;exact ⟨b,rfl,h8⟩
 obtain ⟨hr,hr1,hr2⟩:=hroot
 obtain ⟨r,hr3,_,hr5⟩:=Xoq _ _ _ (Nat.lt_succ_self _) hr1 m (Nat.zero_le _) (by omega)
 rw[htr] at hr3
 simp only[Option.some.injEq] at hr3
 subst hr3
 simp only at hr5
 have hlen:(Yw vs m).length=m+1-a0:=by rw[e,Vd]
 rw[←Xi0]
 unfold Xfm
 rw[hlen]
 have s1:Ub (Yw vs m)=true:=by unfold Ub;rw[hlen];simp;omega
 have s2:((List.range (m+1-a0)).all fun i=>X9 (Xb (Yw vs m) i))=true:=by
  rw[List.all_eq_true]
  intro i hi
  have hi':=List.mem_range.1 hi
  rw[e,Xeb hi',Xrv]
  exact (p2 (a0+i) (by omega)).1
 have s3:((List.range (m+1-a0)).all fun i=>(tr (Yj (Yw vs m)) i).isSome)=true:=by
  rw[List.all_eq_true]
  intro i hi
  have hi':=List.mem_range.1 hi
  obtain ⟨p,hp⟩:=p3 (a0+i) (by omega)
  rw[e,Xor htr (i+1) i (by omega) (by omega) p hp]
  rfl
 have s4:Jy (Yw vs m)=true:=by
  unfold Jy
  rw[hlen,e,Xor htr (m+1) (m+1-a0-1) (by omega) (by omega) (a0,h0) (by rw[show a0+(m+1-a0-1)=m by omega];exact htr)]
  simp
  omega
 rw[s1,s2,s3,s4]
 rfl

set_option maxRecDepth 100000 in
theorem Xbc (B:Nat) (v1 v2:Value) (m:Nat) (L:Nat→List VN) (w:World) (h1:U4 B w v1 m L) (h2:U4 B w v2 m L) (hB:B≤w.heap.size):
  Calls Tryz.prog 15 #[v1,v2] w fun e w'=>e= .returned (.bool true)∧Below w.heap.size w w':=by
 obtain ⟨hm,a1,cap1,rfl,hc1⟩:=h1
 obtain ⟨_,a2,cap2,rfl,hc2⟩:=h2
 have H1:=Xa hc1
 have H2:=Xa hc2
 clear hc1 hc2
 have hne:((m:Int) !=(m:Int))=false:=by simp
 go_enter Tryz.func15,Tryz.ntmps15
 go_wp2_with fail
 go_loopw [5] (fun i wr=>∃k:Nat,k≤m∧i= .int .i64 k∧Below w.heap.size w wr) (fun i _=>m-(intOf i).toNat)
 case atStart=>exact ⟨0,Nat.zero_le _,rfl,Below.refl _ _⟩
 case round=>
  obtain ⟨k,hk,rfl,hbel⟩:=hrel
  have hsize:=hbel.size
  by_cases hlt:k<m
  ·obtain ⟨b1,rfl,hb1,hx1⟩:=H1.out (by omega)
   obtain ⟨b2,rfl,hb2,hx2⟩:=H2.out (by omega)
   obtain ⟨r1,e1,n1⟩:=hx1 k hlt
   obtain ⟨r2,e2,n2⟩:=hx2 k hlt
   have c1:=(Xc hbel (by omega)).trans e1
   have c2:=(Xc hbel (by omega)).trans e2
   have N1:=Xa (n1.below (hbel.mono hB))
   have N2:=Xa (n2.below (hbel.mono hB))
   obtain ⟨_,q1,p1,rfl,_⟩:=n1
   obtain ⟨_,q2,p2,rfl,_⟩:=n2
   clear hx1 hx2 e1 e2
   go_wp2_with fail
   go_region_with (go_at_call 17;refine (Xb5 B _ _ (L k) _ ?_ ?_ ?_).mono ?_;exact N1.out.below (Xaj rfl rfl rfl rfl);exact N2.out.below (Xaj rfl rfl rfl rfl);exact (by simp;omega);rintro e w1 ⟨rfl,hq⟩)
   all_goals
    have hb2:Below w.heap.size w w1:=hbel.drew.trans (hq.mono (by simpa using hsize))
    go_wp2_with fail
    go_roundw
    case rel=>exact ⟨k+1,by omega,by go_num,hb2⟩
    case measure=>simp[intOf];omega
  ·go_wp2_with fail
   go_ret
   exact ⟨rfl,hbel⟩
end Go.Proofs.YtdjddneidbddpaaGreatDoor
