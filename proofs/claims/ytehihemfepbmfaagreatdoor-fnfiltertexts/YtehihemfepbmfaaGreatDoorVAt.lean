import Derived.Test.YtehihemfepbmfaaGreatDoorSpc3
import Derived.Test.YtehihemfepbmfaaGreatDoorTo
import Derived.RangeFuncBox
import Derived.Test.YtehihemfepbmfaaGreatDoorUneP
import Derived.Test.YtehihemfepbmfaaGreatDoorLeaf
import Derived.Lib.ItoaNum
namespace Go.Proofs.YtehihemfepbmfaaGreatDoor
set_option linter.unusedSectionVars false
set_option maxHeartbeats 6400000
open Go.RowKit
set_option linter.unusedSimpArgs false
set_option linter.unusedVariables false
def Uf (lo B:Nat) (w:World) (it:Value) (n:Nat) (P:Nat→Value→Prop):Prop:=
 ∃a cap,it= .slice a n cap∧(0<n→∃b,a=some ⟨b,0,none⟩∧lo<b∧b<B∧∀j,j<n→∃t x,w.cell? ⟨b,j,none⟩=some (.iface t x)∧P j (.iface t x))
def ValIs (lo B:Nat) (w:World) (vs:List VN):Nat→Nat→Value→Prop
 |0,_,_=>False
 | f + 1, i, v =>
  ((Xc vs i).kind=1∧v= .iface 193 (.agg #[]))∨
  ((Xc vs i).kind=2∧v= .iface 195 (.agg #[.int .i64 (Xc vs i).n]))∨
  ((Xc vs i).kind=3∧v= .iface 197 (.agg #[.int .i64 (Xc vs i).n]))∨
  ((Xc vs i).kind=4∧v= .iface 199 (.agg #[.string (Xc vs i).s]))∨
  ((Xc vs i).kind=5∧∃it,v= .iface 201 (.agg #[it])∧Uf lo B w it (Xc vs i).kids.length (fun j u=>ValIs lo B w vs f (Xk (Xc vs i).kids j).toNat u))∨
  ((Xc vs i).kind=6∧∃ks it,v= .iface 204 (.agg #[ks,it])∧StrsAt lo w ks (Xc vs i).keys∧Uf lo B w it (Xc vs i).kids.length (fun j u=>ValIs lo B w vs f (Xk (Xc vs i).kids j).toNat u))
theorem ValIs.iface {lo B:Nat} {w:World} {vs:List VN} {f i:Nat} {v:Value} (h:ValIs lo B w vs f i v):∃t x,v= .iface t x:=by
 cases f with
 |zero=>exact h.elim
 | succ f =>
  rcases h with ⟨_,rfl⟩|⟨_,rfl⟩|⟨_,rfl⟩|⟨_,rfl⟩|⟨_,it,rfl,_⟩|⟨_,ks,it,rfl,_⟩<;>exact ⟨_,_,rfl⟩
def Keep (lo B:Nat) (w w':World):Prop:=∀k,k≠lo→k<B→w'.heap[k]? =w.heap[k]?
theorem Keep.of_below {lo B:Nat} {w w':World} (h:Below B w w'):Keep lo B w w':=fun k _ hk=>h.block k hk
theorem Keep.setCell {lo B o:Nat} (w:World) (v:Value):Keep lo B w (w.setCell ⟨lo,o,none⟩ v):=fun k hk _=>Below.heap_setCell w _ v k hk
theorem Keep.trans {lo B:Nat} {a b c:World} (h:Keep lo B a b) (k:Keep lo B b c):Keep lo B a c:=fun i h1 h2=>(k i h1 h2).trans (h i h1 h2)
theorem Keep.cell {lo B:Nat} {w w':World} (h:Keep lo B w w') {b o:Nat} (h1:b≠lo) (h2:b<B):w'.cell? ⟨b,o,none⟩=w.cell? ⟨b,o,none⟩:=by
 unfold World.cell?
 rw[show w'.heap[(⟨b,o,none⟩:Addr).block]? =w.heap[(⟨b,o,none⟩:Addr).block]? from h b h1 h2]
theorem StrsAt.keep {lo B:Nat} {w w':World} {v:Value} {l:List ByteArray} (h:StrsAt lo w v l) (hk:Keep lo B w w') (hB:lo≤B):StrsAt lo w' v l:=by
 obtain ⟨h1,h2,a,cap,e,h3⟩:=h
 refine ⟨h1,h2,a,cap,e,fun hl=> ?_⟩
 obtain ⟨b,o,ea,hb,hc⟩:=h3 hl
 exact ⟨b,o,ea,hb,fun i hi=>(hk.cell (by omega) (by omega)).trans (hc i hi)⟩
theorem ValIs.keep {lo B B':Nat} {w w':World} {vs:List VN} (hk:Keep lo B w w') (hB:B≤B') (hlo:lo≤B):∀{f i:Nat} {v:Value},ValIs lo B w vs f i v→ValIs lo B' w' vs f i v:=by
 intro f
 induction f with
 |zero=>intro i v h;exact h.elim
 | succ f ih =>
  intro i v h
  have hit:∀it,Uf lo B w it (Xc vs i).kids.length (fun j u=>ValIs lo B w vs f (Xk (Xc vs i).kids j).toNat u)→Uf lo B' w' it (Xc vs i).kids.length (fun j u=>ValIs lo B' w' vs f (Xk (Xc vs i).kids j).toNat u):=by
   rintro it ⟨a,cap,e,hx⟩
   refine ⟨a,cap,e,fun hn=> ?_⟩
   obtain ⟨b,ea,h1,h2,h3⟩:=hx hn
   refine ⟨b,ea,h1,by omega,fun j hj=> ?_⟩
   obtain ⟨t,x,hc,hv⟩:=h3 j hj
   exact ⟨t,x,(hk.cell (by omega) h2).trans hc,ih hv⟩
  rcases h with h|h|h|h|⟨hk5,it,e,hi⟩|⟨hk6,ks,it,e,hs,hi⟩
  ·exact Or.inl h
  ·exact Or.inr (Or.inl h)
  ·exact Or.inr (Or.inr (Or.inl h))
  ·exact Or.inr (Or.inr (Or.inr (Or.inl h)))
  ·exact Or.inr (Or.inr (Or.inr (Or.inr (Or.inl ⟨hk5,it,e,hit it hi⟩))))
  ·exact Or.inr (Or.inr (Or.inr (Or.inr (Or.inr ⟨hk6,ks,it,e,hs.keep hk hlo,hit it hi⟩))))
theorem ValIs.more {lo B:Nat} {w:World} {vs:List VN}:∀{f g i:Nat} {v:Value},f≤g→ValIs lo B w vs f i v→ValIs lo B w vs g i v:=by
 intro f
 induction f with
 |zero=>intro g i v _ h;exact h.elim
 | succ f ih =>
  intro g i v hfg h
  match g,hfg with
  | g + 1, hfg =>
   have hit:∀it,Uf lo B w it (Xc vs i).kids.length (fun j u=>ValIs lo B w vs f (Xk (Xc vs i).kids j).toNat u)→Uf lo B w it (Xc vs i).kids.length (fun j u=>ValIs lo B w vs g (Xk (Xc vs i).kids j).toNat u):=by
    rintro it ⟨a,cap,e,hx⟩
    refine ⟨a,cap,e,fun hn=> ?_⟩
    obtain ⟨b,ea,h1,h2,h3⟩:=hx hn
    refine ⟨b,ea,h1,h2,fun j hj=> ?_⟩
    obtain ⟨t,x,hc,hv⟩:=h3 j hj
    exact ⟨t,x,hc,ih (by omega) hv⟩
   rcases h with h|h|h|h|⟨hk5,it,e,hi⟩|⟨hk6,ks,it,e,hs,hi⟩
   ·exact Or.inl h
   ·exact Or.inr (Or.inl h)
   ·exact Or.inr (Or.inr (Or.inl h))
   ·exact Or.inr (Or.inr (Or.inr (Or.inl h)))
   ·exact Or.inr (Or.inr (Or.inr (Or.inr (Or.inl ⟨hk5,it,e,hit it hi⟩))))
   ·exact Or.inr (Or.inr (Or.inr (Or.inr (Or.inr ⟨hk6,ks,it,e,hs,hit it hi⟩))))
theorem Xma:(Tryz.prog.info? 162).map (fun i=>(i.zero,i.size,i.bytes))=some (some .nilIface,1,16):=by kernel_rfl
def Wg (VV:Nat→Value) (k j:Nat):Value:=if j<k then VV j else .nilIface
theorem Xnz {w:World} {b t n k:Nat} {VV:Nat→Value} {v:Value} (h:w.rowIs b t n (Wg VV k)):(w.setCell ⟨b,k,none⟩ v).rowIs b t n (Wg (fun j=>if j=k then v else VV j) (k+1)):=by
 refine (h.set k _).congr fun i _=> ?_
 unfold Wg
 by_cases e:i=k
 ·subst e;rw[if_pos rfl,if_pos (by omega)];simp
 ·rw[if_neg e];by_cases g:i<k
  ·rw[if_pos g,if_pos (by omega)];simp[e]
  ·rw[if_neg g,if_neg (by omega)]
theorem Us {vs:List VN} {i j:Nat} (h:Q0 vs i=true) (hj:j<(Xc vs i).kids.length):0≤Xk (Xc vs i).kids j∧Xk (Xc vs i).kids j≤(i:Int)-1:=by
 unfold Q0 at h
 rw[List.all_eq_true] at h
 have:=h (Xk (Xc vs i).kids j) (by unfold Y2;rw[Qj hj];exact List.getElem_mem _)
 simpa using this
theorem Xty {T:Nat→Option (Nat×Nat)} (hT:∀m p,T m=some p→p.1≤m):∀(l:List Int) (b h:Nat) (q:Nat×Nat),l.foldl (Xv T) (some (b,h))=some q→l.length≤b:=by
 intro l
 induction l with
 |nil=>intro b h q _;exact Nat.zero_le _
 | cons k l ih =>
  intro b h q e
  obtain ⟨p,h1,_,h3,h4⟩:=Qz e
  have:=ih _ _ _ h4
  have:=hT _ _ h3
  simp only[List.length_cons]
  omega
theorem Xy5 {K:Nat→List Int} {n:Nat} {p:Nat×Nat} (e:tr K n=some p):(K n).length≤n:=by
 rw[Un] at e
 cases hf:(K n).reverse.foldl (Xv (tr K)) (some (n,0)) with
 |none=>simp[hf] at e
 |some q=>have:=Xty (fun m p hp=>Gw hp) _ _ _ _ hf;simpa using this
theorem K2 {vs:List VN} (h:okB vs=true):(1≤vs.length∧vs.length≤80)∧(∀k,k<vs.length→Yb (Xc vs k)=true∧Q0 vs k=true)∧(∀k,k<vs.length→∃p,tr (Y2 vs) k=some p)∧(∀k,k<vs.length→(Xc vs k).kids.length≤k):=by
 have ht:=Xpe vs
 rw[h] at ht
 unfold okB Xa7 at h
 unfold Xga at ht
 simp only[Bool.and_eq_true,List.all_eq_true,List.mem_range,decide_eq_true_eq] at h ht
 obtain ⟨⟨h1,h2⟩,h3⟩:=h
 have hs:∀k,k<vs.length→∃p,tr (Y2 vs) k=some p:=fun k hk=>Option.isSome_iff_exists.1 (ht.2.1 k hk)
 exact ⟨h1,h2,hs,fun k hk=>by obtain ⟨p,hp⟩:=hs k hk;exact Xy5 hp⟩
theorem Xjl {lo base e n:Nat} {w:World} {it:Value} {f:Nat→Value} {P:Nat→Value→Prop} (h:w.ownsRow base e 1 it n ((List.range n).map f)) (hlo:lo<base) (hP:∀j,j<n→∃t x,f j= .iface t x∧P j (.iface t x)):Uf lo w.heap.size w it n P:=by
 obtain ⟨_,h⟩:=h
 rcases h with ⟨rfl,rfl⟩|⟨g,cap,cur,rfl,hb,hg,hn,_,hsz,htk⟩
 ·exact ⟨none,0,rfl,fun h=>absurd h (by omega)⟩
 ·refine ⟨_,cap,rfl,fun hpos=>⟨g,rfl,by omega,(Array.getElem?_eq_some_iff.1 hg).1,fun j hj=> ?_⟩⟩
  obtain ⟨t,x,hf,hp⟩:=hP j hj
  refine ⟨t,x, ?_,hp⟩
  have h1:(cur.toList.take (n *1))[j]? =some (f j):=by rw[htk];simp[hj]
  rw[List.getElem?_take_of_lt (by omega),Array.getElem?_toList] at h1
  simp[World.cell?,hg,h1,hf]

inductive VT where
 |mk (kind n:Int) (s:ByteArray) (keys:List ByteArray) (kids:List VT)
def VT.zero:VT:= .mk 0 0 ByteArray.empty [] []
def K9 (l:List VT) (j:Nat):VT:=l.getD j VT.zero
def Xbr (B:Nat) (w:World) (it:Value) (n:Nat) (P:Nat→Value→Prop):Prop:=
 n≤100000∧∃a cap,it= .slice a n cap∧(0<n→∃b,a=some ⟨b,0,none⟩∧b<B∧∀j,j<n→∃t x,w.cell? ⟨b,j,none⟩=some (.iface t x)∧P j (.iface t x))
def TreeAt (B:Nat) (w:World):Nat→VT→Value→Prop
 |0,_,_=>False
 | f + 1, .mk kind n s keys kids, v =>
  (kind=1∧n=0∧s=ByteArray.empty∧keys= []∧kids= []∧v= .iface 193 (.agg #[]))∨
  (kind=2∧s=ByteArray.empty∧keys= []∧kids= []∧v= .iface 195 (.agg #[.int .i64 n]))∨
  (kind=3∧s=ByteArray.empty∧keys= []∧kids= []∧v= .iface 197 (.agg #[.int .i64 n]))∨
  (kind=4∧n=0∧keys= []∧kids= []∧v= .iface 199 (.agg #[.string s]))∨
  (kind=5∧n=0∧s=ByteArray.empty∧keys= []∧∃it,v= .iface 201 (.agg #[it])∧Xbr B w it kids.length (fun j u=>TreeAt B w f (K9 kids j) u))∨
  (kind=6∧n=0∧s=ByteArray.empty∧∃ks it,v= .iface 204 (.agg #[ks,it])∧StrsAt B w ks keys∧Xbr B w it kids.length (fun j u=>TreeAt B w f (K9 kids j) u))
theorem TreeAt.keep {B B':Nat} {w w':World} (hk:∀k,k<B→w'.heap[k]? =w.heap[k]?) (hB:B≤B'):∀{f:Nat} {t:VT} {v:Value},TreeAt B w f t v→TreeAt B' w' f t v:=by
 intro f
 induction f with
 |zero=>intro t v h;exact h.elim
 | succ f ih =>
  intro t v h
  obtain ⟨kind,n,s,keys,kids⟩:=t
  have hc:∀b j,b<B→w'.cell? ⟨b,j,none⟩=w.cell? ⟨b,j,none⟩:=fun b j hb=>World.cell?_of_block (hk b hb)
  have hit:∀it,Xbr B w it kids.length (fun j u=>TreeAt B w f (K9 kids j) u)→Xbr B' w' it kids.length (fun j u=>TreeAt B' w' f (K9 kids j) u):=by
   rintro it ⟨h0,a,cap,e,hx⟩
   refine ⟨h0,a,cap,e,fun hn=> ?_⟩
   obtain ⟨b,ea,h2,h3⟩:=hx hn
   refine ⟨b,ea,by omega,fun j hj=> ?_⟩
   obtain ⟨t,x,hcc,hv⟩:=h3 j hj
   exact ⟨t,x,(hc b j h2).trans hcc,ih hv⟩
  rcases h with h|h|h|h|⟨h1,h2,h3,h4,it,e,hi⟩|⟨h1,h2,h3,ks,it,e,hs,hi⟩
  ·exact Or.inl h
  ·exact Or.inr (Or.inl h)
  ·exact Or.inr (Or.inr (Or.inl h))
  ·exact Or.inr (Or.inr (Or.inr (Or.inl h)))
  ·exact Or.inr (Or.inr (Or.inr (Or.inr (Or.inl ⟨h1,h2,h3,h4,it,e,hit it hi⟩))))
  ·exact Or.inr (Or.inr (Or.inr (Or.inr (Or.inr ⟨h1,h2,h3,ks,it,e,(hs.keep (lo:=B) (B:=B) (fun k _ hk'=>hk k hk') (Nat.le_refl _)).wide hB,hit it hi⟩))))
def Kc (F:VT→Nat→List VN) (sh:Nat):List VT→List VN→List Int→List VN×List Int
 | [],acc,ks=>(acc,ks)
 |k::r,acc,ks=>Kc F sh r (acc++F k (sh+acc.length)) (ks++ [((sh+(acc++F k (sh+acc.length)).length:Nat):Int)-1])
def U8:Nat→VT→Nat→List VN
 |0,_,_=> []
 |f+1, .mk kind n s keys kids,sh=>(Kc (U8 f) sh kids [] []).1++ [{kind:=kind,n:=n,s:=s,keys:=keys,kids:=(Kc (U8 f) sh kids [] []).2}]
theorem Xfn (F:VT→Nat→List VN) (sh:Nat):∀(l m:List VT) (acc:List VN) (ks:List Int),Kc F sh (l++m) acc ks=Kc F sh m (Kc F sh l acc ks).1 (Kc F sh l acc ks).2:=by
 intro l
 induction l with
 |nil=>intro m acc ks;rfl
 |cons k r ih=>intro m acc ks;exact ih m _ _
def Xca (f sh:Nat) (l:List VT) (k:Nat):List VN:=(Kc (U8 f) sh (l.take k) [] []).1
def ksT (f sh:Nat) (l:List VT) (k:Nat):List Int:=(Kc (U8 f) sh (l.take k) [] []).2
theorem Xts {l:List VT} {k:Nat} (h:k<l.length):l.take (k+1)=l.take k++ [K9 l k]:=by
 rw[List.take_add_one,List.getElem?_eq_getElem h]
 simp[K9,h]
theorem Xqo (f sh:Nat) {l:List VT} {k:Nat} (h:k<l.length):Xca f sh l (k+1)=Xca f sh l k++U8 f (K9 l k) (sh+(Xca f sh l k).length):=by
 unfold Xca;rw[Xts h,Xfn];rfl
theorem Xwz (f:Nat) (kind n:Int) (s:ByteArray) (keys:List ByteArray) (kids:List VT) (sh:Nat):
  U8 (f+1) (.mk kind n s keys kids) sh=Xca f sh kids kids.length++ [{kind:=kind,n:=n,s:=s,keys:=keys,kids:=ksT f sh kids kids.length}]:=by
 simp[U8,Xca,ksT]
def Yp (vs:List VN):Nat→Nat→VT
 |0,_=>VT.zero
 |f+1,i=> .mk (Xc vs i).kind (Xc vs i).n (Xc vs i).s (Xc vs i).keys ((Xc vs i).kids.map fun k=>Yp vs f k.toNat)
theorem Xje (vs:List VN) (f sh:Nat) (ih:∀i s,lay vs f i s=U8 f (Yp vs f i) s):∀(l:List Int) (acc:List VN) (ks:List Int),Gm (lay vs f) sh l acc ks=Kc (U8 f) sh (l.map fun k=>Yp vs f k.toNat) acc ks:=by
 intro l
 induction l with
 |nil=>intro acc ks;rfl
 |cons k r ihr=>intro acc ks;rw[Gm,List.map_cons,Kc,ihr,ih]
theorem Xtt (vs:List VN):∀(f i sh:Nat),lay vs f i sh=U8 f (Yp vs f i) sh:=by
 intro f
 induction f with
 |zero=>intro i sh;rfl
 | succ f ih =>
  intro i sh
  rw[lay,Yp,U8,Xje vs f sh ih]
theorem Xeo {l:List Int} {g:Int→VT} {j:Nat} (h:j<l.length):K9 (l.map g) j=g (Xk l j):=by
 rw[Qj h];simp[K9,h]
theorem ValIs.tree {lo B:Nat} {w:World} {vs:List VN} (hlo:lo≤B) (hr:∀k,k<vs.length→Yb (Xc vs k)=true∧Q0 vs k=true) (hk:∀k,k<vs.length→(Xc vs k).kids.length≤k) (h80:vs.length≤80):∀{f i:Nat} {v:Value},i<vs.length→ValIs lo B w vs f i v→TreeAt B w f (Yp vs f i) v:=by
 intro f
 induction f with
 |zero=>intro i v _ h;exact h.elim
 | succ f ih =>
  intro i v hi h
  have hit:∀it,Uf lo B w it (Xc vs i).kids.length (fun j u=>ValIs lo B w vs f (Xk (Xc vs i).kids j).toNat u)→Xbr B w it ((Xc vs i).kids.map fun k=>Yp vs f k.toNat).length (fun j u=>TreeAt B w f (K9 ((Xc vs i).kids.map fun k=>Yp vs f k.toNat) j) u):=by
   rintro it ⟨a,cap,e,hx⟩
   refine ⟨by have:=hk i hi;simp;omega,a,cap,by simpa using e,fun hn=> ?_⟩
   rw[List.length_map] at hn
   obtain ⟨b,ea,h1,h2,h3⟩:=hx hn
   refine ⟨b,ea,h2,fun j hj=> ?_⟩
   rw[List.length_map] at hj
   obtain ⟨t,x,hcc,hv⟩:=h3 j hj
   refine ⟨t,x,hcc, ?_⟩
   show TreeAt B w f (K9 ((Xc vs i).kids.map fun k=>Yp vs f k.toNat) j) (.iface t x)
   rw[Xeo hj]
   have hb:=Us (hr i hi).2 hj
   exact ih (by omega) hv
  have hn:=(hr i hi).1
  unfold Yb Q7 at hn
  have es:∀s:ByteArray,s.toList= []→s=ByteArray.empty:=fun s h=>by
   cases s with|mk d=>rw[ByteArray.toList_eq] at h;simp at h;subst h;rfl
  simp only[Bool.and_eq_true,Bool.not_eq_true',Bool.and_eq_false_iff,decide_eq_false_iff_not,Decidable.not_not,Nat.not_lt,Nat.le_zero,List.length_eq_zero_iff] at hn
  obtain ⟨⟨⟨⟨n1,n2⟩,n3⟩,n4⟩,_⟩:=hn
  rw[Yp]
  rcases h with ⟨k1,e⟩|⟨k2,e⟩|⟨k3,e⟩|⟨k4,e⟩|⟨k5,it,e,hi⟩|⟨k6,ks,it,e,hs,hi⟩
  ·exact Or.inl ⟨k1,by omega,es _ (by rcases n2 with h|h;omega;exact h),by rcases n3 with h|h;omega;exact h,by rcases n4 with (h|h)|h;omega;omega;rw[h];rfl,e⟩
  ·exact Or.inr (Or.inl ⟨k2,es _ (by rcases n2 with h|h;omega;exact h),by rcases n3 with h|h;omega;exact h,by rcases n4 with (h|h)|h;omega;omega;rw[h];rfl,e⟩)
  ·exact Or.inr (Or.inr (Or.inl ⟨k3,es _ (by rcases n2 with h|h;omega;exact h),by rcases n3 with h|h;omega;exact h,by rcases n4 with (h|h)|h;omega;omega;rw[h];rfl,e⟩))
  ·exact Or.inr (Or.inr (Or.inr (Or.inl ⟨k4,by omega,by rcases n3 with h|h;omega;exact h,by rcases n4 with (h|h)|h;omega;omega;rw[h];rfl,e⟩)))
  ·exact Or.inr (Or.inr (Or.inr (Or.inr (Or.inl ⟨k5,by omega,es _ (by rcases n2 with h|h;omega;exact h),by rcases n3 with h|h;omega;exact h,it,e,hit it hi⟩))))
  ·exact Or.inr (Or.inr (Or.inr (Or.inr (Or.inr ⟨k6,by omega,es _ (by rcases n2 with h|h;omega;exact h),ks,it,e,hs.wide hlo,hit it hi⟩))))

def X1n (l:List Int) (d:Int) (k:Nat):List Value:=(l.take k).map (fun q=> .int .i64 (q+d))

def Xf3 (vs:List VN) (n:Nat):List VN:=run vs (-(trF (tr (Y2 vs) n))) (trF (tr (Y2 vs) n)).toNat (n+1-(trF (tr (Y2 vs) n)).toNat)
theorem Xu4 {vs:List VN} (h:okB vs=true):∀k,k<vs.length→Q0 vs k=true∧(Xc vs k).kids.length≤80∧(Xc vs k).keys.length≤80:=by
 intro k hk
 obtain ⟨h1,h2,_,h4⟩:=K2 h
 have hn:=h2 k hk
 have:=h4 k hk
 refine ⟨hn.2,by omega, ?_⟩
 by_cases e:(Xc vs k).kind=6
 ·have hb:=hn.1
  unfold Yb Qu at hb
  simp[e] at hb
  omega
 ·have hb:=hn.1
  unfold Yb Q7 at hb
  simp[e] at hb
  have:=hb.1.1.2
  simp[this]
theorem Xu5 {vs:List VN} (hok:okB vs=true) {f m:Nat} (hf:m<f) (hm:m<vs.length):U8 f (Yp vs f m) 0=Xf3 vs m∧(Xf3 vs m).length≤80:=by
 obtain ⟨p1,_,p3,_⟩:=K2 hok
 obtain ⟨⟨a0,h0⟩,htr⟩:=p3 m hm
 have e:Xf3 vs m=run vs (-(a0:Int)) a0 (m+1-a0):=by rw[Xf3,htr];simp[trF]
 rw[←Xtt,Xxz vs f m 0 a0 h0 hf htr,e]
 exact ⟨by simp,by rw[Xcp];omega⟩

theorem Wx {vs:List VN} (hok:okB vs=true) {i:Nat} (hi:i<vs.length):
  (Xc vs i).kind=1∨((Xc vs i).kind=2∧0≤(Xc vs i).n∧(Xc vs i).n≤1)∨((Xc vs i).kind=3∧-1000000000000000≤(Xc vs i).n∧(Xc vs i).n≤1000000000000000)∨((Xc vs i).kind=4∧(Xc vs i).s.size≤60)∨
  ((Xc vs i).kind=5)∨((Xc vs i).kind=6∧(Xc vs i).keys.length=(Xc vs i).kids.length∧∀j,j<(Xc vs i).keys.length→(Xt (Xc vs i).keys j).size≤60):=by
 obtain ⟨p1,p2,_,p4⟩:=K2 hok
 have hn:=(p2 i hi).1
 unfold Yb Qu at hn
 simp only[Bool.and_eq_true] at hn
 have h2:=hn.2
 by_cases k1:(Xc vs i).kind=1
 ·exact Or.inl k1
 by_cases k2:(Xc vs i).kind=2
 ·simp[k2] at h2;exact Or.inr (Or.inl ⟨k2,by omega,by omega⟩)
 by_cases k3:(Xc vs i).kind=3
 ·simp[k3] at h2;exact Or.inr (Or.inr (Or.inl ⟨k3,by omega,by omega⟩))
 by_cases k4:(Xc vs i).kind=4
 ·simp[k4,Qi] at h2;exact Or.inr (Or.inr (Or.inr (Or.inl ⟨k4,h2.1⟩)))
 by_cases k5:(Xc vs i).kind=5
 ·exact Or.inr (Or.inr (Or.inr (Or.inr (Or.inl k5))))
 by_cases k6:(Xc vs i).kind=6
 ·simp[k6] at h2
  refine Or.inr (Or.inr (Or.inr (Or.inr (Or.inr ⟨k6,h2.1,fun j hj=> ?_⟩))))
  have:=List.all_eq_true.1 h2.2 j (List.mem_range.2 hj)
  unfold Qy at this
  simp[Qi] at this
  exact this.1.1
 simp[k1,k2,k3,k4,k5,k6] at h2

def Gx (lines:Bool) (deep:Nat):List UInt8:=if lines=true then 10::List.replicate (2 *deep) 32 else []
def Xc0 (lines:Bool) (key:ByteArray):List UInt8:=Gp key++58::(if lines=true then [32] else [])
def Jh (F:VT→List UInt8) (lines named:Bool) (deep:Nat) (keys:List ByteArray) (kids:List VT):Nat→List UInt8
 |0=> []
 |k+1=>Jh F lines named deep keys kids k++(if k=0 then [] else [44])++Gx lines (deep+1)++(if named=true then Xc0 lines (Xt keys k) else [])++F (K9 kids k)
def Jy (F:VT→List UInt8) (lines named:Bool) (deep:Nat) (keys:List ByteArray) (kids:List VT):List UInt8:=
 if kids.length=0 then [] else Jh F lines named deep keys kids kids.length++Gx lines deep
def Yn (lines:Bool):Nat→Nat→VT→List UInt8
 |0,_,_=> []
 | f + 1, deep, .mk kind n s keys kids =>
  if kind=1 then [110,117,108,108] else if kind=2 then (if n=1 then [116,114,117,101] else [102,97,108,115,101]) else if kind=3 then Lib.itoa n else if kind=4 then Gp s
  else if kind=5 then 91::(Jy (Yn lines f (deep+1)) lines false deep keys kids++ [93])
  else 123::(Jy (Yn lines f (deep+1)) lines true deep keys kids++ [125])
theorem Zz (lines:Bool) (f deep:Nat) {kind n:Int} {s:ByteArray} {keys:List ByteArray} {kids:List VT}:
  (kind=1→Yn lines (f+1) deep (.mk kind n s keys kids)= [110,117,108,108])∧(kind=2→Yn lines (f+1) deep (.mk kind n s keys kids)=if n=1 then [116,114,117,101] else [102,97,108,115,101])∧(kind=3→Yn lines (f+1) deep (.mk kind n s keys kids)=Lib.itoa n)∧(kind=4→Yn lines (f+1) deep (.mk kind n s keys kids)=Gp s)∧
  (kind=5→Yn lines (f+1) deep (.mk kind n s keys kids)=91::(Jy (Yn lines f (deep+1)) lines false deep keys kids++ [93]))∧(kind=6→Yn lines (f+1) deep (.mk kind n s keys kids)=123::(Jy (Yn lines f (deep+1)) lines true deep keys kids++ [125])):=by
 refine ⟨?_, ?_, ?_, ?_, ?_, ?_⟩<;>(intro h;subst h;rw[Yn];simp)
theorem Xc1 (lines:Bool) (deep:Nat):(Gx lines deep).length≤2 *deep+1:=by
 unfold Gx;split<;>simp
theorem Xsv (lines:Bool) (key:ByteArray):(Xc0 lines key).length≤6 *key.size+4:=by
 have:=(Wc key).2
 unfold Xc0;rw[List.length_append,List.length_cons];split<;>simp<;>omega
theorem Xkt (F:VT→List UInt8) (lines named:Bool) (deep:Nat) (keys:List ByteArray) (kids:List VT) {j k:Nat} (h:j≤k):(Jh F lines named deep keys kids j).length≤(Jh F lines named deep keys kids k).length:=by
 induction k with
 | zero => obtain rfl : j = 0 := by omega
           exact Nat.le_refl _
 | succ k ih =>
  by_cases e:j=k+1
  ·subst e;exact Nat.le_refl _
  ·have:=ih (by omega)
   rw[Jh];simp only[List.length_append];omega

def Xm1:Nat→VT→Prop
 |0,_=>True
 |f+1, .mk kind n s keys kids=>(kind=2→0≤n∧n≤1)∧(kind=3→-1000000000000000≤n∧n≤1000000000000000)∧(kind=4→s.size≤60)∧kids.length≤80∧(kind=6→keys.length=kids.length∧∀j,j<keys.length→(Xt keys j).size≤60)∧∀j,j<kids.length→Xm1 f (K9 kids j)
theorem Xwj {vs:List VN} (hok:okB vs=true):∀(f i:Nat),i<vs.length→Xm1 f (Yp vs f i):=by
 intro f
 induction f with
 |zero=>intro i _;trivial
 | succ f ih =>
  intro i hi
  rw[Yp]
  have hs:=Wx hok hi
  have hk:=(Xu4 hok i hi)
  refine ⟨fun k=> ?_,fun k=> ?_,fun k=> ?_,by rw[List.length_map];exact hk.2.1,fun k=> ?_,fun j hj=> ?_⟩
  ·rcases hs with h|⟨h,a,b⟩|⟨h,a,b⟩|⟨h,a⟩|h|⟨h,a,b⟩<;>first|exact ⟨a,b⟩|omega
  ·rcases hs with h|⟨h,a,b⟩|⟨h,a,b⟩|⟨h,a⟩|h|⟨h,a,b⟩<;>first|omega|exact ⟨a,b⟩
  ·rcases hs with h|⟨h,a,b⟩|⟨h,a,b⟩|⟨h,a⟩|h|⟨h,a,b⟩<;>first|omega|exact a
  ·rcases hs with h|⟨h,a,b⟩|⟨h,a,b⟩|⟨h,a⟩|h|⟨h,a,b⟩<;>first|omega|exact ⟨by rw[List.length_map];exact a,b⟩
  ·rw[List.length_map] at hj
   rw[Xeo hj]
   obtain ⟨_,p2,_,_⟩:=K2 hok
   have hki:=Us (p2 i hi).2 hj
   exact ih _ (by omega)

theorem Xap {s N k:Nat} {w W0 W:World} {vs:List VN} {VV:Nat→Value} {u:Value} (hrow:W.rowIs s 162 N (Wg VV k)) (hall:∀j,j<k→ValIs s W0.heap.size W0 vs (j+1) j (VV j)) (hk:Keep s W0.heap.size W0 W) (hsz:W0.heap.size≤W.heap.size) (hs:s<W0.heap.size) (hb:Below s w W)
  (hv:ValIs s W.heap.size W vs (k+1) k u):
  (W.setCell ⟨s,k,none⟩ u).rowIs s 162 N (Wg (fun j=>if j=k then u else VV j) (k+1))∧(∀j,j<k+1→ValIs s (W.setCell ⟨s,k,none⟩ u).heap.size (W.setCell ⟨s,k,none⟩ u) vs (j+1) j (if j=k then u else VV j))∧Below s w (W.setCell ⟨s,k,none⟩ u):=by
 have hsz2:(W.setCell ⟨s,k,none⟩ u).heap.size=W.heap.size:=World.size_setCell _ _ _
 refine ⟨Xnz hrow,fun j hj=> ?_,hb.setCell (Nat.le_refl _) _⟩
 by_cases e:j=k
 ·subst e
  rw[if_pos rfl]
  exact ValIs.keep (Keep.setCell W u) (by omega) (by omega) hv
 ·rw[if_neg e]
  exact ValIs.keep (hk.trans (Keep.setCell W u)) (by omega) (by omega) (hall j (by omega))
set_option maxRecDepth 100000 in
theorem Xju (B:Nat) (v:Value) (vs:List VN) (w:World) (h:NodesAt B w v vs) (hB:B≤w.heap.size) (hn1:1≤vs.length) (hn80:vs.length≤80) (hok:∀k,k<vs.length→Yb (Xc vs k)=true∧Q0 vs k=true) (hkn:∀k,k<vs.length→(Xc vs k).kids.length≤k):
  Calls Tryz.prog 163 #[v] w fun e w'=>∃VV:Nat→Value,e= .returned (.slice (some ⟨w.heap.size,0,none⟩) vs.length vs.length)∧
   w'.rowIs w.heap.size 162 vs.length VV∧(∀j,j<vs.length→ValIs w.heap.size w'.heap.size w' vs (j+1) j (VV j))∧Below w.heap.size w w':=by
 obtain ⟨hlen,a,cap,rfl,hcell⟩:=h
 obtain ⟨b0,o0,rfl,hb0,hc⟩:=hcell (by omega)
 clear hcell
 have HOK:=Xb hok
 have HC:=Xb hc
 clear hok hc
 have hmk:=run_make_row' (P:=Tryz.prog) 190 162 .nilIface 16 Tryz.underlying190 Xma rfl .i64 .i64 vs.length (by omega) (by omega)
 obtain ⟨i0,hi,hz0,hz1,hz2⟩:=info_parts Xma
 go_enter Tryz.func163,Tryz.ntmps163
 go_wp2_with fail
 clear hmk
 have hr0:(w.alloc (.cells (madeCells #[Value.nilIface] vs.length) 162)).rowIs w.heap.size 162 vs.length (Wg (fun _=>undef) 0):=(World.rowIs_made w _ _ _).congr fun i _=>by simp[Wg]
 have hbz:Below w.heap.size w (w.alloc (.cells (madeCells #[Value.nilIface] vs.length) 162)):=(Below.refl _ _).alloc (Nat.le_refl _) _
 go_loopw [14] (fun i wr=>∃(k:Nat) (VV:Nat→Value),k≤vs.length∧i= .int .i64 k∧wr.rowIs w.heap.size 162 vs.length (Wg VV k)∧(∀j,j<k→ValIs w.heap.size wr.heap.size wr vs (j+1) j (VV j))∧Below w.heap.size w wr) (fun i _=>vs.length-(intOf i).toNat)
 case atStart=>exact ⟨0,_,Nat.zero_le _,rfl,hr0,fun j hj=>by omega,hbz⟩
 case round =>
  obtain ⟨k,VV,hk,rfl,hrow,hall,hbel⟩:=hrel
  obtain ⟨W0,rfl⟩:∃W0,W0=wr:=⟨_,rfl⟩
  have HA:=Xb hall
  clear hall hr0 hbz
  by_cases hlt:k<vs.length
  ·obtain ⟨ka,ki,hn⟩:=HC.out k hlt
   have hn':=hn.below (hbel.mono hB) hb0
   have c0:=hn'.c0
   have c1:=hn'.c1
   have c2:=hn'.c2
   have c3:=hn'.c3
   have c4:=hn'.c4
   have hsize:=hbel.size
   have hlt0:=hrow.lt
   have HK:=Xb hn.inn.keys
   obtain ⟨_,_,aK,cK,eK,_⟩:=hn'.inn.keys
   obtain ⟨hkl,hkb,aI,cI,eI,hkc⟩:=hn'.inn.kids
   subst eK eI
   have HR:=Xb hrow
   clear hn hn' hrow
   go_wp2_with fail
   have x0:(W0.alloc (.cells #[.int .i64 (Xc vs k).kind, .int .i64 (Xc vs k).n, .string (Xc vs k).s, .slice aK (Xc vs k).keys.length cK, .slice aI (Xc vs k).kids.length cI] 102)).cell? ⟨W0.heap.size,0,none⟩=some (.int .i64 (Xc vs k).kind):=by simp
   have x1:(W0.alloc (.cells #[.int .i64 (Xc vs k).kind, .int .i64 (Xc vs k).n, .string (Xc vs k).s, .slice aK (Xc vs k).keys.length cK, .slice aI (Xc vs k).kids.length cI] 102)).cell? ⟨W0.heap.size,1,none⟩=some (.int .i64 (Xc vs k).n):=by simp
   have x2:(W0.alloc (.cells #[.int .i64 (Xc vs k).kind, .int .i64 (Xc vs k).n, .string (Xc vs k).s, .slice aK (Xc vs k).keys.length cK, .slice aI (Xc vs k).kids.length cI] 102)).cell? ⟨W0.heap.size,2,none⟩=some (.string (Xc vs k).s):=by simp
   have x3:(W0.alloc (.cells #[.int .i64 (Xc vs k).kind, .int .i64 (Xc vs k).n, .string (Xc vs k).s, .slice aK (Xc vs k).keys.length cK, .slice aI (Xc vs k).kids.length cI] 102)).cell? ⟨W0.heap.size,3,none⟩=some (.slice aK (Xc vs k).keys.length cK):=by simp
   have sW1:(W0.alloc (.cells #[.int .i64 (Xc vs k).kind, .int .i64 (Xc vs k).n, .string (Xc vs k).s, .slice aK (Xc vs k).keys.length cK, .slice aI (Xc vs k).kids.length cI] 102)).heap.size=W0.heap.size+1:=by simp
   have bW1:Below W0.heap.size W0 (W0.alloc (.cells #[.int .i64 (Xc vs k).kind, .int .i64 (Xc vs k).n, .string (Xc vs k).s, .slice aK (Xc vs k).keys.length cK, .slice aI (Xc vs k).kids.length cI] 102)):=(Below.refl _ _).alloc (Nat.le_refl _) _
   have rW1:=Xb (HR.out.alloc (.cells #[.int .i64 (Xc vs k).kind, .int .i64 (Xc vs k).n, .string (Xc vs k).s, .slice aK (Xc vs k).keys.length cK, .slice aI (Xc vs k).kids.length cI] 102))
   generalize (W0.alloc (.cells #[.int .i64 (Xc vs k).kind, .int .i64 (Xc vs k).n, .string (Xc vs k).s, .slice aK (Xc vs k).keys.length cK, .slice aI (Xc vs k).kids.length cI] 102))=W1 at *
   have HsW:=Xb sW1
   have hW1gt:W0.heap.size<W1.heap.size:=by omega
   have HX:=Xb (And.intro x0 (And.intro x1 (And.intro x2 x3)))
   have hsub:Below w.heap.size w W1:=hbel.trans (bW1.mono hsize)
   clear sW1 x0 x1 x2 x3 c0 c1 c2 c3 c4
   go_loopw [6,22] (fun it i wr=>∃c:Nat,c≤(Xc vs k).kids.length∧i= .int .i64 c∧wr.ownsRow W1.heap.size 162 1 it c ((List.range c).map fun j=>VV (Xk (Xc vs k).kids j).toNat)∧Below W1.heap.size W1 wr) (fun _ i _=>(Xc vs k).kids.length-(intOf i).toNat)
   case atStart=>exact ⟨0,Nat.zero_le _,rfl,World.ownsRow_nil _ _ _ _,Below.refl _ _⟩
   case round=>
    obtain ⟨c,hcl,rfl,hown,hb2⟩:=hrel
    by_cases hcc:c<(Xc vs k).kids.length
    ·obtain ⟨b1,o1,rfl,hb1',hkc1⟩:=hkc (by omega)
     have hkr:=Us (HOK.out k hlt).2 hcc
     obtain ⟨q,hq⟩:∃q:Nat,Xk (Xc vs k).kids c=(q:Int):=⟨(Xk (Xc vs k).kids c).toNat,by omega⟩
     have hqk:q<k:=by omega
     have hck:wr.cell? ⟨b1,o1+c,none⟩=some (.int .i64 (q:Int)):=by
      rw[←hq];exact (Xd hb2 (by omega)).trans ((Xd bW1 (by omega)).trans (hkc1 c hcc))
     obtain ⟨tq,xq,hvq⟩:=(HA.out q hqk).iface
     have hcq:wr.cell? ⟨w.heap.size,q,none⟩=some (.iface tq xq):=by
      refine (Xd hb2 (by omega)).trans ?_
      rw[rW1.out.cell (by omega),Wg,if_pos hqk,hvq]
     have hqN:(q:Int)<(vs.length:Int):=by omega
     have HQ:Hid ((List.range (c+1)).map (fun j=>VV (Xk (Xc vs k).kids j).toNat)=(List.range c).map (fun j=>VV (Xk (Xc vs k).kids j).toNat)++ [.iface tq xq]):=by
      rw[Hid,List.range_succ,List.map_append]
      simp[hq,hvq]
     have hb2s:=hb2.size
     have HB2:=Xb hb2
     have h80:(Xc vs k).kids.length≤80:=by have:=hkn k hlt;omega
     clear hkc hkc1 hq hkr hvq
     go_wp2_with (at_builtin;refine wpList_append_own _ rfl _ _ 190 rfl W1.heap.size 162 i0 .nilIface 1 16 Tryz.underlying190 hi hz0 hz1 hz2 rfl (by decide) _ _ _ rfl (hown.alloc _) ⟨wr.heap.size,0,none⟩ 1 1 [.iface tq xq] rfl rfl ?c1 ?c2 ?c3 ?c4 ?c5 ?_)
     case c1=>
      intro j u hj
      match j,hj with
      |0,hj=>simp at hj;subst hj;simp[Addr.add]
     case c2=>intro u hu;simp at hu;subst hu;rfl
     case c3=>unfold maxLen;omega
     case c4=>omega
     case c5=>simp;omega
     intro v' w3 hown' hgrow _
     have hb3:Below W1.heap.size W1 w3:=(HB2.out.alloc hb2s _).grown hgrow (by simp;omega) (fun r hr=>by
      rcases hown.2 with ⟨rfl,_⟩|⟨g,cp,cu,rfl,hbg,_⟩
      ·simp[Value.ownBlock] at hr
      ·simp[Value.ownBlock] at hr;omega)
     rw[←HQ.out] at hown'
     clear hgrow hown
     go_wp2_with fail
     go_roundw
     case rel=>exact ⟨c+1,by omega,by go_num,hown',hb3⟩
     case measure=>simp[intOf];omega
    ·obtain rfl:c=(Xc vs k).kids.length:=by omega
     have hb2s:=hb2.size
     have hIt:=Xb (Xjl (lo:=w.heap.size) (P:=fun j u=>ValIs w.heap.size wr.heap.size wr vs k (Xk (Xc vs k).kids j).toNat u) hown (by omega) (fun j hj=>by
      have hkr:=Us (HOK.out k hlt).2 hj
      obtain ⟨t,x,e⟩:=(HA.out (Xk (Xc vs k).kids j).toNat (by omega)).iface
      refine ⟨t,x,e, ?_⟩
      rw[←e]
      exact ValIs.more (by omega) (ValIs.keep ((Keep.of_below (bW1)).trans (Keep.of_below (hb2.mono (by omega)))) (by omega) (by omega) (HA.out _ (by omega)))))
     have hitv:=hIt.out
     obtain ⟨ait,cpt,rfl,_⟩:=hitv
     have y0:wr.cell? ⟨W0.heap.size,0,none⟩=some (.int .i64 (Xc vs k).kind):=(Xd hb2 (by omega)).trans HX.out.1
     have y1:wr.cell? ⟨W0.heap.size,1,none⟩=some (.int .i64 (Xc vs k).n):=(Xd hb2 (by omega)).trans HX.out.2.1
     have y2:wr.cell? ⟨W0.heap.size,2,none⟩=some (.string (Xc vs k).s):=(Xd hb2 (by omega)).trans HX.out.2.2.1
     have y3:wr.cell? ⟨W0.heap.size,3,none⟩=some (.slice aK (Xc vs k).keys.length cK):=(Xd hb2 (by omega)).trans HX.out.2.2.2
     have rwr:=Vn rW1.out hb2 (by omega)
     have z0:=rwr.cell hlt
     have z1:=rwr.frozen k
     have HRW:=Xb rwr
     have HKE:Hid (Keep w.heap.size W0.heap.size W0 wr):=(Keep.of_below (bW1)).trans (Keep.of_below (hb2.mono (by omega)))
     have HBE:Hid (Below w.heap.size w wr):=hsub.trans (hb2.mono (by omega))
     have hszz:W0.heap.size≤wr.heap.size:=by omega
     have HKY:Hid (StrsAt w.heap.size wr (.slice aK (Xc vs k).keys.length cK) (Xc vs k).keys):=(HK.out.wide hB).below HBE.out
     have HNB:=Xb (HOK.out k hlt).1
     clear hown rwr
     by_cases g2:(Xc vs k).kind=2
     ·have S:=Xap (u:= .iface 195 (.agg #[.int .i64 (Xc vs k).n])) HRW.out HA.out HKE.out hszz hlt0 HBE.out (Or.inr (Or.inl ⟨g2,rfl⟩))
      have HS:=Xb S
      clear S
      go_wp2_with fail
      go_roundw
      case rel=>exact ⟨k+1,_,by omega,by go_num,HS.out.1,HS.out.2.1,HS.out.2.2⟩
      case measure=>simp[intOf];omega
     by_cases g3:(Xc vs k).kind=3
     ·have S:=Xap (u:= .iface 197 (.agg #[.int .i64 (Xc vs k).n])) HRW.out HA.out HKE.out hszz hlt0 HBE.out (Or.inr (Or.inr (Or.inl ⟨g3,rfl⟩)))
      have HS:=Xb S
      clear S g2
      go_wp2_with fail
      go_roundw
      case rel=>exact ⟨k+1,_,by omega,by go_num,HS.out.1,HS.out.2.1,HS.out.2.2⟩
      case measure=>simp[intOf];omega
     by_cases g4:(Xc vs k).kind=4
     ·have S:=Xap (u:= .iface 199 (.agg #[.string (Xc vs k).s])) HRW.out HA.out HKE.out hszz hlt0 HBE.out (Or.inr (Or.inr (Or.inr (Or.inl ⟨g4,rfl⟩))))
      have HS:=Xb S
      clear S g2 g3
      go_wp2_with fail
      go_roundw
      case rel=>exact ⟨k+1,_,by omega,by go_num,HS.out.1,HS.out.2.1,HS.out.2.2⟩
      case measure=>simp[intOf];omega
     by_cases g5:(Xc vs k).kind=5
     ·have S:=Xap (u:= .iface 201 (.agg #[.slice ait (Xc vs k).kids.length cpt])) HRW.out HA.out HKE.out hszz hlt0 HBE.out (Or.inr (Or.inr (Or.inr (Or.inr (Or.inl ⟨g5,_,rfl,hIt.out⟩)))))
      have HS:=Xb S
      clear S g2 g3 g4
      go_wp2_with fail
      go_roundw
      case rel=>exact ⟨k+1,_,by omega,by go_num,HS.out.1,HS.out.2.1,HS.out.2.2⟩
      case measure=>simp[intOf];omega
     by_cases g6:(Xc vs k).kind=6
     ·have S:=Xap (u:= .iface 204 (.agg #[.slice aK (Xc vs k).keys.length cK, .slice ait (Xc vs k).kids.length cpt])) HRW.out HA.out HKE.out hszz hlt0 HBE.out (Or.inr (Or.inr (Or.inr (Or.inr (Or.inr ⟨g6,_,_,rfl,HKY.out,hIt.out⟩)))))
      have HS:=Xb S
      clear S g2 g3 g4 g5
      go_wp2_with fail
      go_roundw
      case rel=>exact ⟨k+1,_,by omega,by go_num,HS.out.1,HS.out.2.1,HS.out.2.2⟩
      case measure=>simp[intOf];omega
     ·have g1:(Xc vs k).kind=1:=by
       have:=HNB.out
       unfold Yb Qu at this
       by_cases e1:(Xc vs k).kind=1
       ·exact e1
       ·simp[e1,g2,g3,g4,g5,g6] at this
      have S:=Xap (u:= .iface 193 (.agg #[])) HRW.out HA.out HKE.out hszz hlt0 HBE.out (Or.inl ⟨g1,rfl⟩)
      have HS:=Xb S
      clear S g2 g3 g4 g5 g6
      go_wp2_with fail
      go_roundw
      case rel=>exact ⟨k+1,_,by omega,by go_num,HS.out.1,HS.out.2.1,HS.out.2.2⟩
      case measure=>simp[intOf];omega
  ·obtain rfl:k=vs.length:=by omega
   go_wp2_with fail
   go_ret
   exact ⟨VV,rfl,hrow.congr fun i hi=>by simp[Wg,hi],HA.out,hbel⟩
end Go.Proofs.YtehihemfepbmfaaGreatDoor
