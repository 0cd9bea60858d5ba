import Derived.Test.YtdjddneidbddpaaGreatDoorSpc3
import Derived.Test.YtdjddneidbddpaaGreatDoorTo
import Derived.RangeFuncBox
import Derived.Test.YtdjddneidbddpaaGreatDoorPsZ
import Derived.Test.YtdjddneidbddpaaGreatDoorByP
import Derived.Maps.Range
namespace Go.Proofs.YtdjddneidbddpaaGreatDoor
set_option linter.unusedSectionVars false
set_option maxHeartbeats 6400000
open Go.RowKit
set_option linter.unusedSimpArgs false
set_option linter.unusedVariables false
def Ui (lo B:Nat) (w:World) (it:Value) (n:Nat) (P:Nat->Value->Prop):Prop:=
 ∃a cap,it= .slice a n cap/\(0<n->∃b,a=some ⟨b,0,none⟩/\lo<b/\b<B/\∀j,j<n->∃t x,w.cell? ⟨b,j,none⟩=some (.iface t x)/\P j (.iface t x))
def ValIs (lo B:Nat) (w:World) (vs:List VN):Nat->Nat->Value->Prop
 |0,_,_=>False
 | f + 1, i, v =>
  ((Xb vs i).kind=1/\v= .iface 160 (.agg #[]))\/
  ((Xb vs i).kind=2/\v= .iface 113 (.agg #[.int .i64 (Xb vs i).n]))\/
  ((Xb vs i).kind=3/\v= .iface 114 (.agg #[.int .i64 (Xb vs i).n]))\/
  ((Xb vs i).kind=4/\v= .iface 116 (.agg #[.string (Xb vs i).s]))\/
  ((Xb vs i).kind=5/\∃it,v= .iface 158 (.agg #[it])/\Ui lo B w it (Xb vs i).kids.length (fun j u=>ValIs lo B w vs f (Xj (Xb vs i).kids j).toNat u))\/
  ((Xb vs i).kind=6/\∃ks it,v= .iface 118 (.agg #[ks,it])/\StrsAt lo w ks (Xb vs i).keys/\Ui lo B w it (Xb vs i).kids.length (fun j u=>ValIs lo B w vs f (Xj (Xb vs i).kids j).toNat u))
theorem ValIs.iface {lo B:Nat} {w:World} {vs:List VN} {f i:Nat} {v:Value} (h:ValIs lo B w vs f i v):∃t x,v= .iface t x:=by
 cases f with
 |zero=>exact h.elim
 | succ f =>
  rcases h with ⟨_,rfl⟩|⟨_,rfl⟩|⟨_,rfl⟩|⟨_,rfl⟩|⟨_,it,rfl,_⟩|⟨_,ks,it,rfl,_⟩<;>exact ⟨_,_,rfl⟩
def Keep (lo B:Nat) (w w':World):Prop:=∀k,k≠lo->k<B->w'.heap[k]? =w.heap[k]?
theorem Keep.of_below {lo B:Nat} {w w':World} (h:Below B w w'):Keep lo B w w':=fun k _ hk=>h.block k hk
theorem Keep.setCell {lo B o:Nat} (w:World) (v:Value):Keep lo B w (w.setCell ⟨lo,o,none⟩ v):=fun k hk _=>Below.heap_setCell w _ v k hk
theorem Keep.trans {lo B:Nat} {a b c:World} (h:Keep lo B a b) (k:Keep lo B b c):Keep lo B a c:=fun i h1 h2=>(k i h1 h2).trans (h i h1 h2)
theorem Keep.cell {lo B:Nat} {w w':World} (h:Keep lo B w w') {b o:Nat} (h1:b≠lo) (h2:b<B):w'.cell? ⟨b,o,none⟩=w.cell? ⟨b,o,none⟩:=by
 unfold World.cell?
 rw[show w'.heap[(⟨b,o,none⟩:Addr).block]? =w.heap[(⟨b,o,none⟩:Addr).block]? from h b h1 h2]
theorem StrsAt.keep {lo B:Nat} {w w':World} {v:Value} {l:List ByteArray} (h:StrsAt lo w v l) (hk:Keep lo B w w') (hB:lo<=B):StrsAt lo w' v l:=by
 obtain ⟨d,f,a,c,e,g⟩:=h
 refine ⟨d,f,a,c,e,fun hl=> ?_⟩
 obtain ⟨b,o,j,p,q⟩:=g hl
 exact ⟨b,o,j,p,fun i hi=>(hk.cell (by omega) (by omega)).trans (q i hi)⟩
theorem ValIs.keep {lo B B':Nat} {w w':World} {vs:List VN} (hk:Keep lo B w w') (hB:B<=B') (hlo:lo<=B):∀{f i:Nat} {v:Value},ValIs lo B w vs f i v->ValIs lo B' w' vs f i v:=by
 intro f
 induction f with
 |zero=>intro i v h;exact h.elim
 | succ f ih =>
  intro i v h
  have d:∀c,Ui lo B w c (Xb vs i).kids.length (fun j u=>ValIs lo B w vs f (Xj (Xb vs i).kids j).toNat u)->Ui lo B' w' c (Xb vs i).kids.length (fun j u=>ValIs lo B' w' vs f (Xj (Xb vs i).kids j).toNat u):=by
   rintro c ⟨a,g,e,l⟩
   refine ⟨a,g,e,fun hn=> ?_⟩
   obtain ⟨b,o,p,q,s⟩:=l hn
   refine ⟨b,o,p,by omega,fun j hj=> ?_⟩
   obtain ⟨t,x,y,z⟩:=s j hj
   exact ⟨t,x,(hk.cell (by omega) q).trans y,ih z⟩
  rcases h with h|h|h|h|⟨hk5,c,e,hi⟩|⟨hk6,ks,c,e,hs,hi⟩
  ·exact Or.inl h
  ·exact Or.inr (Or.inl h)
  ·exact Or.inr (Or.inr (Or.inl h))
  ·exact Or.inr (Or.inr (Or.inr (Or.inl h)))
  ·exact Or.inr (Or.inr (Or.inr (Or.inr (Or.inl ⟨hk5,c,e,d c hi⟩))))
  ·exact Or.inr (Or.inr (Or.inr (Or.inr (Or.inr ⟨hk6,ks,c,e,hs.keep hk hlo,d c hi⟩))))
theorem ValIs.more {lo B:Nat} {w:World} {vs:List VN}:∀{f g i:Nat} {v:Value},f<=g->ValIs lo B w vs f i v->ValIs lo B w vs g i v:=by
 intro f
 induction f with
 |zero=>intro g i v _ h;exact h.elim
 | succ f ih =>
  intro g i v d h
  match g,d with
  | g + 1, d =>
   have l:∀c,Ui lo B w c (Xb vs i).kids.length (fun j u=>ValIs lo B w vs f (Xj (Xb vs i).kids j).toNat u)->Ui lo B w c (Xb vs i).kids.length (fun j u=>ValIs lo B w vs g (Xj (Xb vs i).kids j).toNat u):=by
    rintro c ⟨a,o,e,p⟩
    refine ⟨a,o,e,fun hn=> ?_⟩
    obtain ⟨b,q,s,y,z⟩:=p hn
    refine ⟨b,q,s,y,fun j hj=> ?_⟩
    obtain ⟨t,x,C,D⟩:=z j hj
    exact ⟨t,x,C,ih (by omega) D⟩
   rcases h with h|h|h|h|⟨hk5,c,e,hi⟩|⟨hk6,ks,c,e,hs,hi⟩
   ·exact Or.inl h
   ·exact Or.inr (Or.inl h)
   ·exact Or.inr (Or.inr (Or.inl h))
   ·exact Or.inr (Or.inr (Or.inr (Or.inl h)))
   ·exact Or.inr (Or.inr (Or.inr (Or.inr (Or.inl ⟨hk5,c,e,l c hi⟩))))
   ·exact Or.inr (Or.inr (Or.inr (Or.inr (Or.inr ⟨hk6,ks,c,e,hs,l c hi⟩))))
theorem Xbf:(Tryz.prog.info? 52).map (fun i=>(i.zero,i.size,i.bytes))=some (some .nilIface,1,16):=by kernel_rfl
def W9 (VV:Nat->Value) (k j:Nat):Value:=if j<k then VV j else .nilIface
theorem Xul {w:World} {b t n k:Nat} {VV:Nat->Value} {v:Value} (h:w.rowIs b t n (W9 VV k)):(w.setCell ⟨b,k,none⟩ v).rowIs b t n (W9 (fun j=>if j=k then v else VV j) (k+1)):=by
 refine (h.set k _).congr fun i _=> ?_
 unfold W9
 by_cases e:i=k
 ·subst e;rw[if_pos rfl,if_pos (by omega)];simp
 ·rw[if_neg e];by_cases g:i<k
  ·rw[if_pos g,if_pos (by omega)];simp[e]
  ·rw[if_neg g,if_neg (by omega)]
theorem Zw {vs:List VN} {i j:Nat} (h:Z7 vs i=true) (hj:j<(Xb vs i).kids.length):0<=Xj (Xb vs i).kids j/\Xj (Xb vs i).kids j<=(i:Int)-1:=by
 unfold Z7 at h
 rw[List.all_eq_true] at h
 have:=h (Xj (Xb vs i).kids j) (by unfold Yd;rw[Y8 hj];exact List.getElem_mem _)
 simpa using this
theorem X04 {T:Nat->Option (Nat×Nat)} (hT:∀m p,T m=some p->p.1<=m):∀(l:List Int) (b h:Nat) (q:Nat×Nat),l.foldl (Xy T) (some (b,h))=some q->l.length<=b:=by
 intro l
 induction l with
 |nil=>intro b h q _;exact Nat.zero_le _
 | cons k l ih =>
  intro b h q e
  obtain ⟨p,f,_,c,d⟩:=Qe e
  have:=ih _ _ _ d
  have:=hT _ _ c
  simp only[List.length_cons]
  omega
theorem X4n {K:Nat->List Int} {n:Nat} {p:Nat×Nat} (e:tr K n=some p):(K n).length<=n:=by
 rw[Gz] at e
 cases hf:(K n).reverse.foldl (Xy (tr K)) (some (n,0)) with
 |none=>simp[hf] at e
 |some q=>have:=X04 (fun m p hp=>Kq hp) _ _ _ _ hf;simpa using this
theorem Xm {vs:List VN} (h:okB vs=true):(1<=vs.length/\vs.length<=80)/\(∀k,k<vs.length->Xz (Xb vs k)=true/\Z7 vs k=true)/\(∀k,k<vs.length->∃p,tr (Yd vs) k=some p)/\(∀k,k<vs.length->(Xb vs k).kids.length<=k):=by
 have b:=Xiq vs
 rw[h] at b
 unfold okB G0 at h
 unfold Xfc at b
 simp only[Bool.and_eq_true,List.all_eq_true,List.mem_range,decide_eq_true_eq] at h b
 obtain ⟨⟨d,f⟩,j⟩:=h
 have c:∀k,k<vs.length->∃p,tr (Yd vs) k=some p:=fun k hk=>Option.isSome_iff_exists.1 (b.2.1 k hk)
 exact ⟨d,f,c,fun k hk=>by obtain ⟨p,g⟩:=c k hk;exact X4n g⟩
theorem Xov {lo base e n:Nat} {w:World} {it:Value} {f:Nat->Value} {P:Nat->Value->Prop} (h:w.ownsRow base e 1 it n ((List.range n).map f)) (hlo:lo<base) (hP:∀j,j<n->∃t x,f j= .iface t x/\P j (.iface t x)):Ui lo w.heap.size w it n P:=by
 obtain ⟨_,h⟩:=h
 rcases h with ⟨rfl,rfl⟩|⟨g,cap,cur,rfl,hb,hg,hn,_,hsz,htk⟩
 ·exact ⟨none,0,rfl,fun h=>absurd h (by omega)⟩
 ·refine ⟨_,cap,rfl,fun hpos=>⟨g,rfl,by omega,(Array.getElem?_eq_some_iff.1 hg).1,fun j hj=> ?_⟩⟩
  obtain ⟨t,x,c,d⟩:=hP j hj
  refine ⟨t,x, ?_,d⟩
  have b:(cur.toList.take (n *1))[j]? =some (f j):=by rw[htk];simp[hj]
  rw[List.getElem?_take_of_lt (by omega),Array.getElem?_toList] at b
  simp[World.cell?,hg,b,c]


theorem Xzy (vs:List VN) (d:Int) (a n:Nat):run vs d a (n+1)=run vs d a n++ [X5 d (Xb vs (a+n))]:=by
 rw[<-Xde];simp[run]
theorem Z1 {w w':World} {base e s n:Nat} {v:Value} {xs:List Value} {B:Nat} (h:w.ownsRow base e s v n xs) (hb:Below B w w') (hB:∀x,v.ownBlock=some x->x<B):w'.ownsRow base e s v n xs:=by
 refine ⟨h.1, ?_⟩
 rcases h.2 with hn|⟨g,cap,cur,rfl,hg,hgg,rest⟩
 ·exact .inl hn
 ·exact .inr ⟨g,cap,cur,rfl,hg,(hb.block g (hB g rfl)).trans hgg,rest⟩
theorem Nest.below {base:Nat} {w w':World} {v:Value} {vs:List VN} {KV IV:Nat->Value} (h:Nest base w v vs KV IV) (hb:Below w.heap.size w w'):Nest base w' v vs KV IV:=
 ⟨Z1 h.row hb (fun x hx=>(h.row.lt x hx).2),fun i hi=>Z1 (h.rk i hi) hb (fun x hx=>((h.rk i hi).lt x hx).2),fun i hi=>Z1 (h.ri i hi) hb (fun x hx=>((h.ri i hi).lt x hx).2),h.dkk,h.dii⟩
theorem X2s (w:World) (cs:Array Value) (t b j:Nat) (v:Value) (hb:b=w.heap.size) (h:cs[j]? =some v):(w.alloc (.cells cs t)).cell? ⟨b,j,none⟩=some v:=by
 subst hb
 rw[cell_of_row _ _ j cs t (0,0) (heap_alloc_new w _)];exact h
theorem Qb {w:World} {base base' e s n:Nat} {v:Value} {xs:List Value} (h:w.ownsRow base e s v n xs) (hb:base'<=base):w.ownsRow base' e s v n xs:=by
 refine ⟨h.1, ?_⟩
 rcases h.2 with hn|⟨g,cap,cur,rfl,hg,rest⟩
 ·exact .inl hn
 ·exact .inr ⟨g,cap,cur,rfl,by omega,rest⟩
theorem Jg {w:World} {base e s n:Nat} {v:Value} {xs:List Value} (h:w.ownsRow base e s v n xs) {b o:Nat} (u:Value) (hne:∀x,v.ownBlock=some x->x≠b):(w.setCell ⟨b,o,none⟩ u).ownsRow base e s v n xs:=by
 refine ⟨h.1, ?_⟩
 rcases h.2 with hn|⟨g,cap,cur,rfl,hg,hgg,rest⟩
 ·exact .inl hn
 ·exact .inr ⟨g,cap,cur,rfl,hg,(Below.heap_setCell w _ u g (hne g rfl)).trans hgg,rest⟩
def Vn (l:List Int) (d:Int) (k:Nat):List Value:=(l.take k).map (fun q=> .int .i64 (q+d))
theorem Xnk (l:List Int) (d:Int):Vn l d 0= []:=by simp[Vn]
theorem Xnl {l:List Int} {d:Int} {k:Nat} (h:k<l.length):Vn l d (k+1)=Vn l d k++ [.int .i64 (Xj l k+d)]:=by
 unfold Vn
 rw[List.take_add_one,List.map_append,List.getElem?_eq_getElem h,Y8 h]
 simp
theorem Xqz (l:List Int) (d:Int):Vn l d l.length=(l.map (· +d)).map (.int .i64):=by simp[Vn]
theorem Xg {w:World} {base e s n:Nat} {v:Value} {xs:List Value} (h:w.ownsRow base e s v n xs):∃a c,v= .slice a n c:=by
 rcases h.2 with ⟨rfl,rfl⟩|⟨g,cap,cur,rfl,_⟩
 ·exact ⟨_,_,rfl⟩
 ·exact ⟨_,_,rfl⟩
set_option maxRecDepth 100000 in
theorem Xie (B:Nat) (v:Value) (vs:List VN) (n a h':Nat) (w:World) (h:NodesAt B w v vs) (hB:B<=w.heap.size) (h80:vs.length<=80) (hkids:∀k,k<vs.length->Z7 vs k=true/\(Xb vs k).kids.length<=80/\(Xb vs k).keys.length<=80) (hn:n<vs.length) (htr:tr (Yd vs) n=some (a,h')):
  Calls Tryz.prog 129 #[v, .int .i64 n] w fun e w'=>∃r KV IV,e= .returned r/\Nest w.heap.size w' r (run vs (-(a:Int)) a (n+1-a)) KV IV/\Below w.heap.size w w':=by
 have HV:=Xa h
 obtain ⟨dc,av,df,rfl,Y⟩:=h
 obtain ⟨b0,o0,rfl,ce,hc⟩:=Y (by omega)
 have HC:=Xa hc
 have HK:=Xa hkids
 have cf:=Kq htr
 simp at cf
 have HF:Hid (trF (tr (Yd vs) n)=(a:Int)):=by rw[Hid,htr];rfl
 obtain ⟨i0,cg,ch,cj,ck⟩:=info_parts Kl
 obtain ⟨i1,cl,cm,cn,cq⟩:=info_parts Wj
 obtain ⟨i2,cr,cs,ct,cv⟩:=info_parts Wi
 clear Y hc hkids htr
 go_enter Tryz.func129,Tryz.ntmps129
 go_wp2_with fail
 refine (Xh3 B _ vs vs.length n _ hn hn HV.out).mono ?_
 rintro e w1 ⟨rfl,rfl⟩
 obtain ⟨w,rfl⟩:∃w,w=w1:=⟨_,rfl⟩
 rw[HF.out]
 go_wp2_with fail
 have bt:Below w.heap.size w (w.alloc (.cells #[] 75)):=(Below.refl _ _).alloc (Nat.le_refl _) _
 have bu:Nest w.heap.size (w.alloc (.cells #[] 75)) (.slice (some ⟨w.heap.size,0,none⟩) 0 0) (run vs (-(a:Int)) a 0) (fun _=>undef) (fun _=>undef):=
  ⟨World.ownsRow_lit w #[] 0 (Nat.le_refl _) (by simp[maxLen]) rfl,fun i hi=>absurd hi (by simp[run]),fun i hi=>absurd hi (by simp[run]),fun i j hi=>absurd hi (by simp[run]),fun i j hi=>absurd hi (by simp[run])⟩
 go_loopw [7,8] (fun o i wr=>∃(c:Nat) (KV IV:Nat->Value),a<=c/\c<=n+1/\i= .int .i64 c/\Nest w.heap.size wr o (run vs (-(a:Int)) a (c-a)) KV IV/\Below w.heap.size w wr) (fun _ i _=>n+1-(intOf i).toNat)
 case atStart=>exact ⟨a,_,_,Nat.le_refl _,by omega,rfl,by rw[Nat.sub_self];exact bu,bt⟩
 case round =>
  obtain ⟨c,KV,IV,dg,dh,rfl,L,be⟩:=hrel
  clear bt bu
  have HN:=Xa L
  have zs:=be.size
  obtain ⟨ao,co,rfl⟩:=Xg L.row
  by_cases hlt:c<=n
  ·obtain ⟨ka,ki,bv⟩:=HC.out c (by omega)
   have J:=bv.below (be.mono hB) ce
   have c0:=J.c0
   have c1:=J.c1
   have c2:=J.c2
   have c3:=J.c3
   have c4:=J.c4
   obtain ⟨_,_,P,R,eK,S⟩:=J.inn.keys
   obtain ⟨_,di,T,V,eI,bw⟩:=J.inn.kids
   subst eK eI
   have cw:=Xa S
   have cx:=Xa bw
   have kk:=HK.out c (by omega)
   clear bv J S bw L
   have Z:(((wr.alloc (.cells #[.int .i64 (Xb vs c).kind, .int .i64 (Xb vs c).n, .string (Xb vs c).s, .slice P (Xb vs c).keys.length R, .slice T (Xb vs c).kids.length V] 75)).alloc (.cells #[] 9))).ownsRow w.heap.size 9 1 (.slice (some ⟨wr.heap.size+1,0,none⟩) 0 0) 0 []:=by
    have:=World.ownsRow_lit (base:=w.heap.size) (e:=9) (size:=1) (wr.alloc (.cells #[.int .i64 (Xb vs c).kind, .int .i64 (Xb vs c).n, .string (Xb vs c).s, .slice P (Xb vs c).keys.length R, .slice T (Xb vs c).kids.length V] 75)) #[] 0 (by simp;omega) (by simp[maxLen]) rfl
    simpa using this
   have bx:(((wr.alloc (.cells #[.int .i64 (Xb vs c).kind, .int .i64 (Xb vs c).n, .string (Xb vs c).s, .slice P (Xb vs c).keys.length R, .slice T (Xb vs c).kids.length V] 75)).alloc (.cells #[] 9))).cell? ⟨wr.heap.size,0,none⟩=some (.int .i64 (Xb vs c).kind):=by simp
   have bz:(((wr.alloc (.cells #[.int .i64 (Xb vs c).kind, .int .i64 (Xb vs c).n, .string (Xb vs c).s, .slice P (Xb vs c).keys.length R, .slice T (Xb vs c).kids.length V] 75)).alloc (.cells #[] 9))).cell? ⟨wr.heap.size,1,none⟩=some (.int .i64 (Xb vs c).n):=by simp
   have b1:(((wr.alloc (.cells #[.int .i64 (Xb vs c).kind, .int .i64 (Xb vs c).n, .string (Xb vs c).s, .slice P (Xb vs c).keys.length R, .slice T (Xb vs c).kids.length V] 75)).alloc (.cells #[] 9))).cell? ⟨wr.heap.size,2,none⟩=some (.string (Xb vs c).s):=by simp
   have b2:(((wr.alloc (.cells #[.int .i64 (Xb vs c).kind, .int .i64 (Xb vs c).n, .string (Xb vs c).s, .slice P (Xb vs c).keys.length R, .slice T (Xb vs c).kids.length V] 75)).alloc (.cells #[] 9))).cell? ⟨wr.heap.size,3,none⟩=some (.slice P (Xb vs c).keys.length R):=by simp
   have b3:(((wr.alloc (.cells #[.int .i64 (Xb vs c).kind, .int .i64 (Xb vs c).n, .string (Xb vs c).s, .slice P (Xb vs c).keys.length R, .slice T (Xb vs c).kids.length V] 75)).alloc (.cells #[] 9))).cell? ⟨wr.heap.size,4,none⟩=some (.slice T (Xb vs c).kids.length V):=by simp
   have b4:∀j,(((wr.alloc (.cells #[.int .i64 (Xb vs c).kind, .int .i64 (Xb vs c).n, .string (Xb vs c).s, .slice P (Xb vs c).keys.length R, .slice T (Xb vs c).kids.length V] 75)).alloc (.cells #[] 9))).frozen? ⟨wr.heap.size,j,none⟩=false:=fun j=>by simp
   have bo:Below wr.heap.size wr (((wr.alloc (.cells #[.int .i64 (Xb vs c).kind, .int .i64 (Xb vs c).n, .string (Xb vs c).s, .slice P (Xb vs c).keys.length R, .slice T (Xb vs c).kids.length V] 75)).alloc (.cells #[] 9))):=((Below.refl _ _).alloc (Nat.le_refl _) _).alloc (by simp) _
   have b5:(((wr.alloc (.cells #[.int .i64 (Xb vs c).kind, .int .i64 (Xb vs c).n, .string (Xb vs c).s, .slice P (Xb vs c).keys.length R, .slice T (Xb vs c).kids.length V] 75)).alloc (.cells #[] 9))).heap.size=wr.heap.size+1+1:=by simp
   have HX:=Xa (bf.intro bx (bf.intro bz (bf.intro b1 (bf.intro b2 (bf.intro b3 b4)))))
   have b6:=Xa bo
   have ba:=Xa b5
   have bh:=Xa Z
   have bi:Hid (0<(Xb vs c).keys.length->∃ad,P=some ad/\∀j u,((Xb vs c).keys.map Value.string)[j]? =some u->(((wr.alloc (.cells #[.int .i64 (Xb vs c).kind, .int .i64 (Xb vs c).n, .string (Xb vs c).s, .slice P (Xb vs c).keys.length R, .slice T (Xb vs c).kids.length V] 75)).alloc (.cells #[] 9))).cell? (ad.add j)=some u):=by
    intro hp
    obtain ⟨bk,ok,rfl,f,bg⟩:=cw.out hp
    refine ⟨_,rfl,fun j u hj=> ?_⟩
    have b7:j<(Xb vs c).keys.length:=by have:=(List.getElem?_eq_some_iff.1 hj).1;simpa using this
    rw[show (⟨bk,ok,none⟩:Addr).add j=⟨bk,ok+j,none⟩ by simp[Addr.add],Xc bo (by omega),bg j b7]
    simp[b7,Xf] at hj|-
    exact hj
   clear bx bz b1 b2 b3 b4 bo b5 Z
   go_wp2_with (at_builtin;refine X6 rfl _ _ 72 rfl w.heap.size 9 i1 (.string ByteArray.empty) 1 16 Tryz.underlying72 cl cm cn cq rfl (by decide) _ 0 [] rfl bh.out P (Xb vs c).keys.length R ((Xb vs c).keys.map .string) rfl (by simp) bi.out ?c2 ?c3 ?c4 ?c5 ?_)
   case c2=>intro u hu;obtain ⟨q,_,rfl⟩:=List.mem_map.1 hu;rfl
   case c3=>unfold maxLen;omega
   case c4=>omega
   case c5=>simp;omega
   intro v' d bb G bj
   (try simp only[Nat.zero_add,List.nil_append] at bb)
   have bc:v'.ownBlock=some (wr.heap.size+1)\/v'.ownBlock=some (wr.heap.size+1+1):=by
    rcases bj with e|e
    ·exact Or.inl e
    ·exact Or.inr (by first|exact e|rw[e,ba.out])
   obtain ⟨t,D,rfl⟩:∃g p,v'= .slice (some ⟨g,0,none⟩) (Xb vs c).keys.length p:=by
    rcases bb.2 with ⟨rfl,_⟩|⟨g,p,cur,rfl,_⟩
    ·simp[Value.ownBlock] at bc
    ·exact ⟨g,p,rfl⟩
   have bl:t=wr.heap.size+1\/t=wr.heap.size+1+1:=by simpa [Value.ownBlock] using bc
   have b8:Below wr.heap.size wr d:=b6.out.grown G (by rw[ba.out];omega) (fun r hr=>by simp[Value.ownBlock] at hr;omega)
   have dd:=(bb.lt t rfl).2
   have z2:=b8.size
   have cy:=G.size
   rw[ba.out] at cy
   have M:some wr.heap.size≠(Value.slice (some ⟨wr.heap.size+1,0,none⟩) 0 0).ownBlock:=by simp[Value.ownBlock]
   have y0:=G.cell HX.out.1 M
   have y1:=G.cell HX.out.2.1 M
   have y2:=G.cell HX.out.2.2.1 M
   have y3:=G.cell HX.out.2.2.2.1 M
   have y4:=G.cell HX.out.2.2.2.2.1 M
   have yf:∀j,d.frozen? ⟨wr.heap.size,j,none⟩=false:=fun j=>(World.frozen?_of_block (G.block wr.heap.size (by rw[ba.out];omega) M)).trans (HX.out.2.2.2.2.2 j)
   have cz:=Xa b8
   have b9:=Xa bb
   have bp:=Xa bl
   clear bb G bj bc bl M c0 c1 c2 c3 c4
   have HZ:Hid (((d.setCell ⟨wr.heap.size,3,none⟩ (.slice (some ⟨t,0,none⟩) (Xb vs c).keys.length D)).alloc (.cells #[] 2)).cell? ⟨wr.heap.size,0,none⟩=some (.int .i64 (Xb vs c).kind)/\((d.setCell ⟨wr.heap.size,3,none⟩ (.slice (some ⟨t,0,none⟩) (Xb vs c).keys.length D)).alloc (.cells #[] 2)).cell? ⟨wr.heap.size,1,none⟩=some (.int .i64 (Xb vs c).n)/\((d.setCell ⟨wr.heap.size,3,none⟩ (.slice (some ⟨t,0,none⟩) (Xb vs c).keys.length D)).alloc (.cells #[] 2)).cell? ⟨wr.heap.size,2,none⟩=some (.string (Xb vs c).s)/\
     ((d.setCell ⟨wr.heap.size,3,none⟩ (.slice (some ⟨t,0,none⟩) (Xb vs c).keys.length D)).alloc (.cells #[] 2)).cell? ⟨wr.heap.size,3,none⟩=some (.slice (some ⟨t,0,none⟩) (Xb vs c).keys.length D)/\((d.setCell ⟨wr.heap.size,3,none⟩ (.slice (some ⟨t,0,none⟩) (Xb vs c).keys.length D)).alloc (.cells #[] 2)).cell? ⟨wr.heap.size,4,none⟩=some (.slice T (Xb vs c).kids.length V)/\∀j,((d.setCell ⟨wr.heap.size,3,none⟩ (.slice (some ⟨t,0,none⟩) (Xb vs c).keys.length D)).alloc (.cells #[] 2)).frozen? ⟨wr.heap.size,j,none⟩=false):=by
    have bd:∀j,((d.setCell ⟨wr.heap.size,3,none⟩ (.slice (some ⟨t,0,none⟩) (Xb vs c).keys.length D)).alloc (.cells #[] 2)).cell? ⟨wr.heap.size,j,none⟩=(d.setCell ⟨wr.heap.size,3,none⟩ (.slice (some ⟨t,0,none⟩) (Xb vs c).keys.length D)).cell? ⟨wr.heap.size,j,none⟩:=fun j=>Xc ((Below.refl _ _).alloc (Nat.le_refl _) _) (by simp;omega)
    refine ⟨?_, ?_, ?_, ?_, ?_,fun j=> ?_⟩
    ·rw[bd,World.cell?_setCell_other _ _ _ _ (by simp)];exact y0
    ·rw[bd,World.cell?_setCell_other _ _ _ _ (by simp)];exact y1
    ·rw[bd,World.cell?_setCell_other _ _ _ _ (by simp)];exact y2
    ·rw[bd];exact World.cell?_setCell_same _ _ _ y3
    ·rw[bd,World.cell?_setCell_other _ _ _ _ (by simp)];exact y4
    ·have hb:((d.setCell ⟨wr.heap.size,3,none⟩ (.slice (some ⟨t,0,none⟩) (Xb vs c).keys.length D)).alloc (.cells #[] 2)).heap[wr.heap.size]? =(d.setCell ⟨wr.heap.size,3,none⟩ (.slice (some ⟨t,0,none⟩) (Xb vs c).keys.length D)).heap[wr.heap.size]? :=((Below.refl _ (d.setCell ⟨wr.heap.size,3,none⟩ (.slice (some ⟨t,0,none⟩) (Xb vs c).keys.length D))).alloc (Nat.le_refl _) _).block _ (by simp;omega)
     rw[World.frozen?_of_block (a:=⟨wr.heap.size,j,none⟩) hb,World.frozen?_setCell];exact yf j
   have ca:Hid (Below wr.heap.size wr ((d.setCell ⟨wr.heap.size,3,none⟩ (.slice (some ⟨t,0,none⟩) (Xb vs c).keys.length D)).alloc (.cells #[] 2))):=(cz.out.setCell (p:=⟨wr.heap.size,3,none⟩) (Nat.le_refl _) _).alloc (by simp;omega) _
   have c6:Hid (((d.setCell ⟨wr.heap.size,3,none⟩ (.slice (some ⟨t,0,none⟩) (Xb vs c).keys.length D)).alloc (.cells #[] 2)).ownsRow w.heap.size 9 1 (.slice (some ⟨t,0,none⟩) (Xb vs c).keys.length D) (Xb vs c).keys.length ((Xb vs c).keys.map .string)):=by
    have h1:Below (wr.heap.size+1) d d:=Below.refl _ _
    refine World.ownsRow.alloc ?_ _
    refine ⟨b9.out.1, ?_⟩
    rcases b9.out.2 with ⟨e,_⟩|⟨g,p,cur,e,q1,q2,q3⟩
    ·simp at e
    ·have eg:t=g:=by simpa [Value.ownBlock] using (congrArg Value.ownBlock e)
     exact Or.inr ⟨g,p,cur,e,q1,(Below.heap_setCell d _ _ g (by rw[<-eg];rcases bp.out with x|x<;>simp[x]<;>omega)).trans q2,q3⟩
   have c7:Hid (((d.setCell ⟨wr.heap.size,3,none⟩ (.slice (some ⟨t,0,none⟩) (Xb vs c).keys.length D)).alloc (.cells #[] 2)).ownsRow d.heap.size 2 1 (.slice (some ⟨d.heap.size,0,none⟩) 0 0) 0 []):=by
    have:=World.ownsRow_lit (base:=d.heap.size) (e:=2) (size:=1) (d.setCell ⟨wr.heap.size,3,none⟩ (.slice (some ⟨t,0,none⟩) (Xb vs c).keys.length D)) #[] 0 (by simp) (by simp[maxLen]) rfl
    rw[Hid];simpa using this
   have c8:Hid (((d.setCell ⟨wr.heap.size,3,none⟩ (.slice (some ⟨t,0,none⟩) (Xb vs c).keys.length D)).alloc (.cells #[] 2)).heap.size=d.heap.size+1):=by rw[Hid];simp
   have f3:=yf 3
   go_wp2_with fail
   generalize ((d.setCell ⟨wr.heap.size,3,none⟩ (.slice (some ⟨t,0,none⟩) (Xb vs c).keys.length D)).alloc (.cells #[] 2))=W3 at *
   have z3:d.heap.size<W3.heap.size:=by have:=c8.out;omega
   clear y0 y1 y2 y3 y4 yf f3 HX b6 bh bi ba
   obtain ⟨z,rfl⟩:∃z,z=wr:=⟨_,rfl⟩
   go_loopw [10,11] (fun it i wr=>∃k:Nat,k<=(Xb vs c).kids.length/\i= .int .i64 k/\wr.ownsRow d.heap.size 2 1 it k (Vn (Xb vs c).kids (-(a:Int)) k)/\Below d.heap.size W3 wr) (fun _ i _=>(Xb vs c).kids.length-(intOf i).toNat)
   case atStart=>exact ⟨0,Nat.zero_le _,rfl,by rw[Xnk];exact c7.out,Below.refl _ _⟩
   case round=>
    obtain ⟨k,dj,rfl,F,f⟩:=hrel
    have zk:=f.size
    by_cases S:k<(Xb vs c).kids.length
    ·obtain ⟨bk,ok,rfl,de,bg⟩:=cx.out (by omega)
     have c9:=Zw kk.1 S
     obtain ⟨q,hq⟩:∃q:Nat,Xj (Xb vs c).kids k=(q:Int):=⟨(Xj (Xb vs c).kids k).toNat,by omega⟩
     have dk:q<c:=by omega
     have dl:wr.cell? ⟨bk,ok+k,none⟩=some (.int .i64 (q:Int)):=by
      rw[<-hq];exact (Xc f (by omega)).trans ((Xc ca.out (by omega)).trans (bg k S))
     have z4:=(Xc (o:=4) f (show z.heap.size<d.heap.size by omega)).trans HZ.out.2.2.2.2.1
     have HQ:Hid (Vn (Xb vs c).kids (-(a:Int)) (k+1)=Vn (Xb vs c).kids (-(a:Int)) k++ [.int .i64 ((q:Int)-(a:Int))]):=by
      rw[Hid,Xnl S,hq];rfl
     have da:=Xa f
     clear bg hq c9
     go_wp2_with (at_builtin;refine wpList_append_own _ rfl _ _ 73 rfl d.heap.size 2 i2 (.int .i64 0) 1 8 Tryz.underlying73 cr cs ct cv rfl (by decide) _ _ _ rfl (F.alloc _) ⟨wr.heap.size,0,none⟩ 1 1 [.int .i64 ((q:Int)-(a:Int))] rfl rfl ?c1 ?c2 ?c3 ?c4 ?c5 ?_)
     case c1=>
      intro j u hj
      match j,hj with
      |0,hj=>simp at hj;subst hj;simp[Addr.add]
     case c2=>intro u hu;simp at hu;subst hu;rfl
     case c3=>unfold maxLen;omega
     case c4=>omega
     case c5=>simp;omega
     intro v' w5 C l _
     have bq:Below d.heap.size W3 w5:=(da.out.alloc (by omega) _).grown l (by simp;omega) (fun r hr=>by
      rcases F.2 with ⟨rfl,_⟩|⟨g,cp,cu,rfl,hbg,_⟩
      ·simp[Value.ownBlock] at hr
      ·simp[Value.ownBlock] at hr;omega)
     rw[<-HQ.out] at C
     clear l F
     go_wp2_with fail
     go_roundw
     case rel=>exact ⟨k+1,by omega,by go_num,C,bq⟩
     case measure=>simp[intOf];omega
    ·obtain rfl:k=(Xb vs c).kids.length:=by omega
     obtain ⟨ai,ci,rfl⟩:=Xg F
     have dm:=f.size
     have X:z.heap.size<d.heap.size:=by omega
     have bq:Below z.heap.size z wr:=ca.out.trans (f.mono (by omega))
     have u0:=(Xc (o:=0) f X).trans HZ.out.1
     have u1:=(Xc (o:=1) f X).trans HZ.out.2.1
     have u2:=(Xc (o:=2) f X).trans HZ.out.2.2.1
     have u3:=(Xc (o:=3) f X).trans HZ.out.2.2.2.1
     have u4:=(Xc (o:=4) f X).trans HZ.out.2.2.2.2.1
     have uf:wr.frozen? ⟨z.heap.size,4,none⟩=false:=(World.frozen?_of_block (f.block z.heap.size X)).trans (HZ.out.2.2.2.2.2 4)
     have x0:=(World.cell?_setCell_other wr ⟨z.heap.size,4,none⟩ ⟨z.heap.size,0,none⟩ (.slice ai (Xb vs c).kids.length ci) (by simp)).trans u0
     have x1:=(World.cell?_setCell_other wr ⟨z.heap.size,4,none⟩ ⟨z.heap.size,1,none⟩ (.slice ai (Xb vs c).kids.length ci) (by simp)).trans u1
     have x2:=(World.cell?_setCell_other wr ⟨z.heap.size,4,none⟩ ⟨z.heap.size,2,none⟩ (.slice ai (Xb vs c).kids.length ci) (by simp)).trans u2
     have x3:=(World.cell?_setCell_other wr ⟨z.heap.size,4,none⟩ ⟨z.heap.size,3,none⟩ (.slice ai (Xb vs c).kids.length ci) (by simp)).trans u3
     have x4:=World.cell?_setCell_same wr ⟨z.heap.size,4,none⟩ (.slice ai (Xb vs c).kids.length ci) u4
     have cb:Hid (Below z.heap.size z (wr.setCell ⟨z.heap.size,4,none⟩ (.slice ai (Xb vs c).kids.length ci))):=bq.setCell (Nat.le_refl _) _
     have cc:=Xa ((HN.out.below cb.out).below ((Below.refl _ (wr.setCell ⟨z.heap.size,4,none⟩ (.slice ai (Xb vs c).kids.length ci))).alloc (Nat.le_refl _) (.cells #[.int .i64 (Xb vs c).kind, .int .i64 (Xb vs c).n, .string (Xb vs c).s, .slice (some ⟨t,0,none⟩) (Xb vs c).keys.length D, .slice ai (Xb vs c).kids.length ci] 75)))
     have br:=Xa F
     have dp:(run vs (-(a:Int)) a (c-a)).length<=80:=by rw[K9];omega
     clear F
     go_wp2_with (at_builtin;refine wpList_append_own _ rfl _ _ 25 rfl w.heap.size 75 i0 zeroNode 5 80 Tryz.underlying25 cg ch cj ck rfl (by decide) _ _ _ rfl cc.out.row ⟨wr.heap.size,0,none⟩ 1 1 [.int .i64 (Xb vs c).kind, .int .i64 (Xb vs c).n, .string (Xb vs c).s, .slice (some ⟨t,0,none⟩) (Xb vs c).keys.length D, .slice ai (Xb vs c).kids.length ci] rfl rfl ?c1 ?c2 ?c3 ?c4 ?c5 ?_)
     case c1=>
      intro j u hj
      have dq:j<5:=by have:=(List.getElem?_eq_some_iff.1 hj).1;simpa using this
      rw[show (⟨wr.heap.size,0,none⟩:Addr).add j=⟨wr.heap.size,j,none⟩ by simp[Addr.add];omega]
      exact X2s _ _ _ _ j u (by simp) (by simpa using hj)
     case c2=>intro u hu;simp at hu;rcases hu with rfl|rfl|rfl|rfl|rfl<;>rfl
     case c3=>unfold maxLen;omega
     case c4=>omega
     case c5=>simp;omega
     intro v' w6 C l _
     have cd:=Jg (Z1 c6.out f (fun x hx=>by simp[Value.ownBlock] at hx;omega)) (b:=z.heap.size) (o:=4) (.slice ai (Xb vs c).kids.length ci) (fun x hx=>by simp[Value.ownBlock] at hx;have:=bp.out;omega)
     have bs:=Jg (Qb br.out (show w.heap.size<=d.heap.size by omega)) (b:=z.heap.size) (o:=4) (.slice ai (Xb vs c).kids.length ci) (fun x hx=>by have:=(br.out.lt x hx).1;omega)
     rw[Xqz] at bs
     have bm:=Nest.snoc (x:=X5 (-(a:Int)) (Xb vs c)) cc.out (cd.alloc _) (by simpa [X5] using bs.alloc _)
      (fun i hi y hy h2=>by have:=((HN.out.rk i hi).lt y h2).2;have:=bp.out;simp[Value.ownBlock] at hy;omega)
      (fun i hi y hy h2=>by have:=((HN.out.ri i hi).lt y h2).2;have:=(br.out.lt y hy).1;omega) C l
     have db:Below w.heap.size w w6:=((be.trans (cb.out.mono zs)).alloc (by simp;omega) _).grown l (by simp;omega) (fun r hr=>(HN.out.row.lt r hr).1)
     have bn:run vs (-(a:Int)) a (c-a)++ [X5 (-(a:Int)) (Xb vs c)]=run vs (-(a:Int)) a (c+1-a):=by rw[show c+1-a=(c-a)+1 by omega,Xzy,show a+(c-a)=c by omega]
     rw[bn] at bm
     clear l C cd bs bn
     go_wp2_with fail
     go_roundw
     case rel=>exact ⟨c+1,_,_,by omega,by omega,by go_num,bm,db⟩
     case measure=>simp[intOf];omega
  ·obtain rfl:c=n+1:=by omega
   go_wp2_with fail
   go_ret
   exact ⟨_,KV,IV,rfl,HN.out,be⟩


theorem From.only {base:Nat} {P:Nat->Prop} {a w w':World} (h:From base a w) (ho:Only P w w') (hP:∀c,P c->c<base):From base a w':=
 ⟨Nat.le_trans h.1 ho.1,fun c h1 h2=>(ho.2 c (by have:=h.1;omega) (fun p=>by have:=hP c p;omega)).trans (h.2 c h1 h2)⟩
theorem Nest.from {base:Nat} {w w':World} {v:Value} {vs:List VN} {KV IV:Nat->Value} (h:Nest base w v vs KV IV) (hf:From base w w'):Nest base w' v vs KV IV:=
 ⟨Vg h.row hf,fun i hi=>Vg (h.rk i hi) hf,fun i hi=>Vg (h.ri i hi) hf,h.dkk,h.dii⟩
def blk (v:Value):Nat:=(v.ownBlock).getD 0
def J1 (vs:List VN) (i:Nat):Nat:=(Xb vs i).keys.length
def J2 (vs:List VN) (i:Nat):Nat:=(Xb vs i).kids.length
def Few (vs:List VN):Prop:=vs.length<=80/\∀i,i<vs.length->(Xb vs i).keys.length<=80/\(Xb vs i).kids.length<=80
theorem Nest.mark {base:Nat} {w:World} {a:Option Addr} {n c:Nat} {vs:List VN} {KV IV:Nat->Value} (h:Nest base w (.slice a n c) vs KV IV) (hl:vs.length=n) (hf:Few vs):
  0<n->a=some ⟨blk (.slice a n c),0,none⟩/\Marky base w (blk (.slice a n c)) n (J1 vs) (J2 vs) (fun i=>blk (KV i)) (fun i=>blk (IV i)):=by
 subst hl
 intro b
 obtain ⟨g,d,e,_⟩:=h.row.form b
 cases e
 exact ⟨rfl,Nest.marky h (by have:=hf.1;omega) (fun i hi=>by have:=hf.2 i hi;omega)⟩
def Uv (r:Value) (n:Nat) (K I:Nat->Value) (x:Nat):Prop:=r.ownBlock=some x\/∃j,j<n/\((K j).ownBlock=some x\/(I j).ownBlock=some x)
theorem Nest.inn {base:Nat} {w:World} {v:Value} {vs:List VN} {KV IV:Nat->Value} (h:Nest base w v vs KV IV) {x:Nat} (hx:Uv v vs.length KV IV x):base<=x/\x<w.heap.size:=by
 rcases hx with hx|⟨j,hj,hx|hx⟩
 ·exact h.row.lt x hx
 ·exact (h.rk j hj).lt x hx
 ·exact (h.ri j hj).lt x hx
theorem Xc3 {w:World} {base e s n:Nat} {v:Value} {xs:List Value} (h:w.ownsRow base e s v n xs) (hn:0<n):v.ownBlock=some (blk v):=by
 obtain ⟨g,b,rfl,_⟩:=h.form hn
 rfl
theorem Nest.marked {base:Nat} {w:World} {v:Value} {vs:List VN} {KV IV:Nat->Value} (h:Nest base w v vs KV IV) {x:Nat} (hx:Xal (blk v) vs.length (J1 vs) (J2 vs) (fun i=>blk (KV i)) (fun i=>blk (IV i)) x):Uv v vs.length KV IV x:=by
 obtain ⟨d,rfl|⟨i,b,⟨c,rfl⟩|⟨c,rfl⟩⟩⟩:=hx
 ·exact Or.inl (Xc3 h.row d)
 ·exact Or.inr ⟨i,b,Or.inl (Xc3 (h.rk i b) c)⟩
 ·exact Or.inr ⟨i,b,Or.inr (Xc3 (h.ri i b) c)⟩
theorem Nest.far {base base':Nat} {w:World} {v r:Value} {n:Nat} {xs:List Value} {vs:List VN} {KV IV:Nat->Value} (h:Nest base w v vs KV IV) (hr:w.ownsRow base' 25 1 r n xs) {x:Nat} (hx:Uv v vs.length KV IV x):r.ownBlock≠some x:=by
 intro e
 rcases hx with hx|⟨j,hj,hx|hx⟩
 ·rcases Yk hr h.row (by decide) with e2|e2
  ·rw[e] at e2;cases e2
  ·exact e2 (e.trans hx.symm)
 ·rcases Yk hr (h.rk j hj) (by decide) with e2|e2
  ·rw[e] at e2;cases e2
  ·exact e2 (e.trans hx.symm)
 ·rcases Yk hr (h.ri j hj) (by decide) with e2|e2
  ·rw[e] at e2;cases e2
  ·exact e2 (e.trans hx.symm)
def Xjv {α:Type} (F:Nat->α) (k:Nat) (v:α) (i:Nat):α:=if i=k then v else F i
theorem Xe5 {α:Type} (F:Nat->α) (k:Nat) (v:α):Xjv F k v k=v:=if_pos rfl
theorem Xdr {α:Type} (F:Nat->α) {k i:Nat} (v:α) (h:i≠k):Xjv F k v i=F i:=if_neg h
structure Rows2 (base:Nat) (w:World) (v:Value) (m:Nat) (L:Nat->List VN) (rs:Nat->Value) (KV IV:Nat->Nat->Value) (lo:Nat->Nat):Prop where
 row:w.ownsRow base 25 1 v m ((List.range m).map rs)
 nest:∀i,i<m->Nest (lo i) w (rs i) (L i) (KV i) (IV i)
 low:∀i,i<=m->base<=lo i
 mono:∀i j,i<=j->j<=m->lo i<=lo j
 top:lo m<=w.heap.size
 inn:∀i,i<m->∀x,Uv (rs i) (L i).length (KV i) (IV i) x->x<lo (i+1)
theorem Rows2.start {base:Nat} {w:World} {v:Value} (h:w.ownsRow base 25 1 v 0 []) (hb:base<=w.heap.size) (L:Nat->List VN):Rows2 base w v 0 L (fun _=>undef) (fun _ _=>undef) (fun _ _=>undef) (fun _=>base):=
 ⟨by simpa using h,fun i hi=>absurd hi (by omega),fun _ _=>Nat.le_refl _,fun _ _ _ _=>Nat.le_refl _,hb,fun i hi=>absurd hi (by omega)⟩
theorem Rows2.below {base:Nat} {w w':World} {v:Value} {m:Nat} {L:Nat->List VN} {rs:Nat->Value} {KV IV:Nat->Nat->Value} {lo:Nat->Nat} (h:Rows2 base w v m L rs KV IV lo) (hb:Below w.heap.size w w'):Rows2 base w' v m L rs KV IV lo:=
 ⟨Z1 h.row hb (fun x hx=>(h.row.lt x hx).2),fun i hi=>(h.nest i hi).below hb,h.low,h.mono,Nat.le_trans h.top hb.size,h.inn⟩
theorem Rows2.from {base:Nat} {w w':World} {v:Value} {m:Nat} {L:Nat->List VN} {rs:Nat->Value} {KV IV:Nat->Nat->Value} {lo:Nat->Nat} (h:Rows2 base w v m L rs KV IV lo) (hf:From base w w'):Rows2 base w' v m L rs KV IV lo:=
 ⟨Vg h.row hf,fun i hi=>(h.nest i hi).from (hf.mono (h.low i (by omega))),h.low,h.mono,Nat.le_trans h.top hf.1,h.inn⟩
theorem Xjw {m:Nat} {rs:Nat->Value} {r:Value}:(List.range (m+1)).map (Xjv rs m r)=(List.range m).map rs++ [r]:=by
 rw[List.range_succ,List.map_append]
 congr 1
 ·apply List.map_congr_left
  intro j b
  exact Xdr _ _ (by have:=List.mem_range.1 b;omega)
 ·simp[Xe5]
theorem Rows2.snoc {base:Nat} {w w1 w5:World} {v v' r:Value} {m:Nat} {L:Nat->List VN} {rs:Nat->Value} {KV IV:Nat->Nat->Value} {lo:Nat->Nat} {K I:Nat->Value} {o:Obj} (h:Rows2 base w v m L rs KV IV lo) (hb:Below w.heap.size w w1) (hn:Nest w.heap.size w1 r (L m) K I)
  (hown:w5.ownsRow base 25 1 v' (m+1) ((List.range m).map rs++ [r])) (hg:(w1.alloc o).grownBy w5 v.ownBlock):
  Rows2 base w5 v' (m+1) L (Xjv rs m r) (Xjv KV m K) (Xjv IV m I) (fun i=>if i<m then lo i else if i=m then w.heap.size else w1.heap.size):=by
 have f:=h.below hb
 have c:w1.grownBy w5 v.ownBlock:=(World.grownBy_alloc w1 o _).trans hg
 have p:=hb.size
 have l:=c.size
 have kept:∀{b:Nat} {u:Value} {vs:List VN} {A C:Nat->Value},Nest b w1 u vs A C->Nest b w5 u vs A C:=fun hx=>hx.kept c (Yk hx.row f.row (by decide)) (fun i hi=>Yk (hx.rk i hi) f.row (by decide)) (fun i hi=>Yk (hx.ri i hi) f.row (by decide))
 refine ⟨by rw[Xjw];exact hown,fun i hi=> ?_,fun i hi=> ?_,fun i j hij hj=> ?_, ?_,fun i hi x hx=> ?_⟩
 ·by_cases e:i=m
  ·subst e
   simp only[Xe5,Nat.lt_irrefl,if_true,if_false]
   exact kept hn
  ·simp only[Xdr _ _ e,if_pos (show i<m by omega)]
   exact kept (f.nest i (by omega))
 ·have q:=h.low m (Nat.le_refl _)
  have g:=h.top
  by_cases e:i<m
  ·simp only[if_pos e];exact h.low i (by omega)
  ·by_cases e2:i=m
   ·simp only[if_neg e,if_pos e2];omega
   ·simp only[if_neg e,if_neg e2];omega
 ·have g:=h.top
  by_cases e:j<m
  ·simp only[if_pos e,if_pos (show i<m by omega)];exact h.mono i j hij (by omega)
  ·by_cases e1:i<m
   ·have:=h.mono i m (by omega) (Nat.le_refl _)
    by_cases e2:j=m
    ·simp only[if_pos e1,if_neg e,if_pos e2];omega
    ·simp only[if_pos e1,if_neg e,if_neg e2];omega
   ·by_cases e2:j=m
    ·simp only[if_neg e1,if_neg e,if_pos e2,if_pos (show i=m by omega)];omega
    ·by_cases d:i=m
     ·simp only[if_neg e1,if_neg e,if_neg e2,if_pos d];omega
     ·simp only[if_neg e1,if_neg e,if_neg e2,if_neg d];omega
 ·simp only[if_neg (show ¬m+1<m by omega),if_neg (show ¬m+1=m by omega)];omega
 ·have g:=h.top
  by_cases e:i=m
  ·subst e
   simp only[Xe5] at hx
   simp only[if_neg (show ¬i+1<i by omega),if_neg (show ¬i+1=i by omega)]
   exact (hn.inn hx).2
  ·simp only[Xdr _ _ e] at hx
   have:=h.inn i (by omega) x hx
   by_cases e2:i+1<m
   ·simp only[if_pos e2];exact this
   ·obtain d:i+1=m:=by omega
    rw[d] at this
    simp only[if_neg e2,if_pos d];omega
def Uw (B:Nat) (w:World) (v:Value) (m:Nat) (L:Nat->List VN):Prop:=
 m<=1048576/\∃a cap,v= .slice a m cap/\(0<m->∃b,a=some ⟨b,0,none⟩/\b<B/\∀i,i<m->∃r,w.cell? ⟨b,i,none⟩=some r/\NodesAt B w r (L i))
theorem Rows2.rows {base:Nat} {w:World} {v:Value} {m:Nat} {L:Nat->List VN} {rs:Nat->Value} {KV IV:Nat->Nat->Value} {lo:Nat->Nat} (h:Rows2 base w v m L rs KV IV lo) (hm:m<=80) (hf:∀i,i<m->Few (L i)/\∀j,j<(L i).length->Fits (Xb (L i) j)):Uw w.heap.size w v m L:=by
 obtain ⟨a,c,e⟩:=Xg h.row
 subst e
 refine ⟨by omega,a,c,rfl,fun hp=> ?_⟩
 obtain ⟨g,d,e,_,b⟩:=h.row.form hp
 cases e
 refine ⟨g,rfl,b,fun i hi=>⟨rs i, ?_,(h.nest i hi).nodes (by have:=(hf i hi).1.1;omega) (hf i hi).2⟩⟩
 rw[h.row.cellAt i (by omega)]
 simp[hi]


def Laid (base:Nat) (w w':World) (v v':Value) (ns add:List VN) (KV IV KV' IV':Nat->Value):Prop:=
 Nest base w' v' (ns++add) KV' IV'/\w.grownBy w' v.ownBlock/\(v'.ownBlock=v.ownBlock\/∃g,v'.ownBlock=some g/\w.heap.size<=g)/\(∀j,j<ns.length->KV' j=KV j/\IV' j=IV j)/\
  (∀j,ns.length<=j->j<ns.length+add.length->(∀y,(KV' j).ownBlock=some y->w.heap.size<=y)/\(∀y,(IV' j).ownBlock=some y->w.heap.size<=y))
structure Mid (base:Nat) (w wr:World) (nb:Nat) (v0 v kv:Value) (ns acc:List VN) (ks:List Int) (cs:List Value) (KV0 IV0 KV IV:Nat->Value):Prop where
 hbase:base<=w.heap.size
 v0b:∀y,v0.ownBlock=some y->base<=y
 nest:Nest base wr v (ns++acc) KV IV
 node:wr.ownsRow w.heap.size 75 5 (.slice (some ⟨nb,0,none⟩) 1 1) 1 cs
 kids:wr.ownsRow w.heap.size 2 1 kv ks.length (ks.map (.int .i64))
 vnb:v.ownBlock≠some nb
 frame:w.grownBy wr v0.ownBlock
 vat:v.ownBlock=v0.ownBlock\/∃g,v.ownBlock=some g/\w.heap.size<=g
 old:∀j,j<ns.length->KV j=KV0 j/\IV j=IV0 j
 new:∀j,ns.length<=j->j<ns.length+acc.length->(∀y,(KV j).ownBlock=some y->w.heap.size<=y)/\(∀y,(IV j).ownBlock=some y->w.heap.size<=y)
 ki:∀j,j<ns.length+acc.length->∀y,kv.ownBlock=some y->(IV j).ownBlock≠some y
theorem Xg9 {w w':World} {row:Option Nat} (h:Below w.heap.size w w'):w.grownBy w' row:=⟨h.os,h.tape,h.output,h.size,fun k hk _=>h.block k hk⟩
theorem Mid.start {base:Nat} {w w1 w2:World} {v:Value} {ns:List VN} {KV IV:Nat->Value} {c0 c1 c2 c3 c4:Value} (h:Nest base w v ns KV IV) (hb:base<=w.heap.size) (h1:Below w.heap.size w w1)
  (h2:Below (w1.alloc (.cells #[c0,c1,c2,c3,c4] 75)).heap.size (w1.alloc (.cells #[c0,c1,c2,c3,c4] 75)) w2):
  Mid base w w2 w1.heap.size v v (.slice none 0 0) ns [] [] [c0,c1,c2,c3,c4] KV IV KV IV:=by
 have b:Below w.heap.size w w2:=(h1.alloc h1.size _).trans (h2.mono (by have:=h1.size;simp;omega))
 have c:=World.ownsRow_lit (base:=w.heap.size) (e:=75) (size:=5) w1 #[c0,c1,c2,c3,c4] 1 h1.size (by simp[maxLen]) rfl
 refine ⟨hb,fun y hy=>(h.row.lt y hy).1,by simpa using h.below b,Z1 c h2 (fun x hx=> ?_),World.ownsRow_nil _ _ _ _,fun e=> ?_,Xg9 b,Or.inl rfl,fun j _=>⟨rfl,rfl⟩,fun j h1 h2=> ?_,fun j hj y hy=> ?_⟩
 ·simp[Value.ownBlock] at hx;subst hx;simp
 ·have:=(h.row.lt _ e).2
  have:=h1.size
  omega
 ·simp at h2;omega
 ·simp[Value.ownBlock] at hy
theorem Mid.laid {base:Nat} {w wr w':World} {nb:Nat} {v0 v v' kv:Value} {ns acc add:List VN} {ks:List Int} {cs:List Value} {KV0 IV0 KV IV KV' IV':Nat->Value} (h:Mid base w wr nb v0 v kv ns acc ks cs KV0 IV0 KV IV)
  (l:Laid base wr w' v v' (ns++acc) add KV IV KV' IV'):Mid base w w' nb v0 v' kv ns (acc++add) ks cs KV0 IV0 KV' IV':=by
 obtain ⟨q,c,f,d,p⟩:=l
 have s:=(h.node.lt nb rfl).2
 have b:=h.frame.size
 refine ⟨h.hbase,h.v0b,by rw[<-List.append_assoc];exact q,h.node.kept c (Or.inr fun e=>h.vnb e.symm),h.kids.kept c (Yk h.kids h.nest.row (by decide)), ?_,h.frame.andThen c (fun j hj=> ?_), ?_,fun j hj=> ?_,fun j hj1 hj2=> ?_,fun j hj y hy=> ?_⟩
 ·rcases f with e|⟨g,e,hg⟩
  ·rw[e];exact h.vnb
  ·rw[e];intro t;simp at t;omega
 ·rcases h.vat with e|⟨g,e,hg⟩
  ·exact Or.inr (e▸hj)
  ·rw[e] at hj;simp at hj;exact Or.inl (by omega)
 ·rcases f with e|⟨g,e,hg⟩
  ·rw[e];exact h.vat
  ·exact Or.inr ⟨g,e,by omega⟩
 ·have e:=d j (by simp;omega)
  have o:=h.old j hj
  exact ⟨e.1.trans o.1,e.2.trans o.2⟩
 ·by_cases hlt:j<ns.length+acc.length
  ·have e:=d j (by simp;omega)
   rw[e.1,e.2]
   exact h.new j hj1 hlt
  ·have e:=p j (by simp;omega) (by simp at hj2|-;omega)
   exact ⟨fun y hy=>Nat.le_trans b (e.1 y hy),fun y hy=>Nat.le_trans b (e.2 y hy)⟩
 ·by_cases hlt:j<ns.length+acc.length
  ·rw[(d j (by simp;omega)).2]
   exact h.ki j hlt y hy
  ·intro e
   have:=(p j (by simp;omega) (by simp at hj|-;omega)).2 y e
   have:=(h.kids.lt y hy).2
   omega
theorem Mid.put {base:Nat} {w wr:World} {nb:Nat} {v0 v kv:Value} {ns acc:List VN} {ks:List Int} {cs:List Value} {KV0 IV0 KV IV:Nat->Value} (h:Mid base w wr nb v0 v kv ns acc ks cs KV0 IV0 KV IV) (j:Nat) (u:Value):
  Mid base w (wr.setCell ⟨nb,j,none⟩ u) nb v0 v kv ns acc ks (cs.set j u) KV0 IV0 KV IV:=by
 have b:=h.node.stored j u
 exact ⟨h.hbase,h.v0b,h.nest.kept b.2 (Or.inr h.vnb) (fun i hi=>Yk (h.nest.rk i hi) h.node (by decide)) (fun i hi=>Yk (h.nest.ri i hi) h.node (by decide)),b.1,h.kids.kept b.2 (Yk h.kids h.node (by decide)),h.vnb,
  h.frame.andThen b.2 (fun j hj=>Or.inl (by cases hj;exact (h.node.lt nb rfl).1)),h.vat,h.old,h.new,h.ki⟩
theorem Mid.kid1 {base:Nat} {w wr w5:World} {nb:Nat} {v0 v kv kv':Value} {ns acc:List VN} {ks:List Int} {cs:List Value} {KV0 IV0 KV IV:Nat->Value} {o:Obj} {q:Int} (h:Mid base w wr nb v0 v kv ns acc ks cs KV0 IV0 KV IV)
  (hown:w5.ownsRow w.heap.size 2 1 kv' (ks.length+1) (ks.map (.int .i64)++ [.int .i64 q])) (hg:(wr.alloc o).grownBy w5 kv.ownBlock) (hat:kv'.ownBlock=kv.ownBlock\/kv'.ownBlock=some (wr.heap.size+1)):
  Mid base w w5 nb v0 v kv' ns acc (ks++ [q]) cs KV0 IV0 KV IV:=by
 have b:wr.grownBy w5 kv.ownBlock:=(World.grownBy_alloc wr o _).trans hg
 have c:∀i,i<(ns++acc).length->(IV i).ownBlock=none\/(IV i).ownBlock≠kv.ownBlock:=by
  intro i d
  cases e:kv.ownBlock with
  | none => cases f : (IV i).ownBlock with
   |none=>exact Or.inl rfl
   |some y=>exact Or.inr (by simp)
  |some y=>exact Or.inr (h.ki i (by simpa using d) y e)
 refine ⟨h.hbase,h.v0b,h.nest.kept b (Yk h.nest.row h.kids (by decide)) (fun i d=>Yk (h.nest.rk i d) h.kids (by decide)) c,h.node.kept b (Yk h.node h.kids (by decide)),by simpa using hown,h.vnb,h.frame.andThen b (fun j hj=>Or.inl (h.kids.lt j hj).1),h.vat,h.old,h.new,fun j hj y hy=> ?_⟩
 rcases hat with e|e
 ·exact h.ki j hj y (e▸hy)
 ·rw[e] at hy
  simp at hy
  intro f
  have:=((h.nest.ri j (by simpa using hj)).lt y f).2
  omega
theorem Mid.kid {base:Nat} {w wr w5:World} {nb:Nat} {v0 v kv kv':Value} {ns acc:List VN} {ks:List Int} {cs:List Value} {KV0 IV0 KV IV:Nat->Value} {o:Obj} {q:Int} (h:Mid base w wr nb v0 v kv ns acc ks cs KV0 IV0 KV IV)
  (hown:w5.ownsRow w.heap.size 2 1 kv' (ks.length+1) (ks.map (.int .i64)++ [.int .i64 q])) (hg:(wr.alloc o).grownBy w5 kv.ownBlock) (hat:kv'.ownBlock=kv.ownBlock\/kv'.ownBlock=some (wr.heap.size+1)):
  Mid base w (w5.setCell ⟨nb,4,none⟩ kv') nb v0 v kv' ns acc (ks++ [q]) (cs.set 4 kv') KV0 IV0 KV IV:=(h.kid1 hown hg hat).put 4 kv'
theorem Mid.kid0 {base:Nat} {w wr:World} {nb:Nat} {v0 v kv:Value} {ns acc:List VN} {ks:List Int} {cs:List Value} {KV0 IV0 KV IV:Nat->Value} (h:Mid base w wr nb v0 v kv ns acc ks cs KV0 IV0 KV IV):
  Mid base w (wr.alloc (.cells #[] 2)) nb v0 v (.slice (some ⟨wr.heap.size,0,none⟩) 0 0) ns acc [] cs KV0 IV0 KV IV:=by
 have c:=World.grownBy_alloc wr (.cells #[] 2) none
 have b:∀x:Option Nat,x=none\/x≠none:=fun x=>by cases x<;>simp
 have d:=h.frame.size
 refine ⟨h.hbase,h.v0b,h.nest.kept c (b _) (fun _ _=>b _) (fun _ _=>b _),h.node.kept c (b _),World.ownsRow_lit wr #[] 0 d (by simp[maxLen]) rfl,h.vnb,h.frame.andThen c (fun j hj=>by cases hj),h.vat,h.old,h.new,fun j hj y hy e=> ?_⟩
 have:=((h.nest.ri j (by simpa using hj)).lt y e).2
 simp[Value.ownBlock] at hy
 omega
theorem Mid.grow {base:Nat} {w wr w5:World} {nb:Nat} {v0 v kv:Value} {ns acc:List VN} {ks:List Int} {cs:List Value} {KV0 IV0 KV IV:Nat->Value} (h:Mid base w wr nb v0 v kv ns acc ks cs KV0 IV0 KV IV) (hg:wr.grownBy w5 none):
  Mid base w w5 nb v0 v kv ns acc ks cs KV0 IV0 KV IV:=by
 have b:∀x:Option Nat,x=none\/x≠none:=fun x=>by cases x<;>simp
 exact ⟨h.hbase,h.v0b,h.nest.kept hg (b _) (fun _ _=>b _) (fun _ _=>b _),h.node.kept hg (b _),h.kids.kept hg (b _),h.vnb,h.frame.andThen hg (fun j hj=>by cases hj),h.vat,h.old,h.new,h.ki⟩
theorem Mid.fin {base:Nat} {w wr w6:World} {nb:Nat} {v0 v v' kv c3:Value} {ns acc:List VN} {ks:List Int} {cs:List Value} {KV0 IV0 KV IV:Nat->Value} {o:Obj} {x:VN} (h:Mid base w wr nb v0 v kv ns acc ks cs KV0 IV0 KV IV) (hx:x.kids=ks)
  (hk:wr.ownsRow w.heap.size 9 1 c3 x.keys.length (x.keys.map .string)) (fk:∀j,j<ns.length+acc.length->∀y,c3.ownBlock=some y->(KV j).ownBlock≠some y)
  (hown:w6.ownsRow base 75 5 v' ((ns++acc).length+1) (Kf (ns++acc) KV IV++ [.int .i64 x.kind, .int .i64 x.n, .string x.s,c3,kv])) (hg:(wr.alloc o).grownBy w6 v.ownBlock) (hat:v'.ownBlock=v.ownBlock\/v'.ownBlock=some (wr.heap.size+1)):
  Laid base w w6 v0 v' ns (acc++ [x]) KV0 IV0 (upd KV (ns++acc).length c3) (upd IV (ns++acc).length kv):=by
 subst hx
 have b:wr.grownBy w6 v.ownBlock:=(World.grownBy_alloc wr o _).trans hg
 have c:=h.frame.size
 have d:=Nest.snoc (x:=x) h.nest (Qb hk h.hbase) (Qb h.kids h.hbase) (fun i hi=>fk i (by simpa using hi)) (fun i hi=>h.ki i (by simpa using hi)) hown b
 refine ⟨by rw[<-List.append_assoc];exact d,h.frame.andThen b (fun j hj=> ?_), ?_,fun j hj=> ?_,fun j hj1 hj2=> ?_⟩
 ·rcases h.vat with e|⟨g,e,hg⟩
  ·exact Or.inr (e▸hj)
  ·rw[e] at hj;simp at hj;exact Or.inl (by omega)
 ·rcases hat with e|e
  ·rw[e];exact h.vat
  ·exact Or.inr ⟨_,e,by omega⟩
 ·rw[Z2 _ _ (by simp;omega),Z2 _ _ (by simp;omega)]
  exact h.old j hj
 ·by_cases hlt:j<ns.length+acc.length
  ·rw[Z2 _ _ (by simp;omega),Z2 _ _ (by simp;omega)]
   exact h.new j hj1 hlt
  ·obtain rfl:j=(ns++acc).length:=by simp at hj2|-;omega
   rw[Vf,Vf]
   exact ⟨fun y hy=>(hk.lt y hy).1,fun y hy=>(h.kids.lt y hy).1⟩
theorem Mid.keepL {base:Nat} {w wr:World} {nb:Nat} {v0 v kv:Value} {ns acc:List VN} {ks:List Int} {cs:List Value} {KV0 IV0 KV IV:Nat->Value} {B:Nat} (h:Mid base w wr nb v0 v kv ns acc ks cs KV0 IV0 KV IV) (hB:B<=base):Below B w wr:=
 (Below.refl _ _).grown h.frame (by have:=h.hbase;omega) (fun k hk=>by have:=h.v0b k hk;omega)
theorem Laid.refl {base:Nat} {w:World} {v:Value} {ns:List VN} {KV IV:Nat->Value} (h:Nest base w v ns KV IV):Laid base w w v v ns [] KV IV KV IV:=
 ⟨by simpa using h,⟨rfl,rfl,rfl,Nat.le_refl _,fun _ _ _=>rfl⟩,Or.inl rfl,fun _ _=>⟨rfl,rfl⟩,fun j h1 h2=>by simp at h2;omega⟩
theorem Laid.trans {base:Nat} {w w1 w2:World} {v v1 v2:Value} {ns add add':List VN} {KV IV KV1 IV1 KV2 IV2:Nat->Value} (h:Laid base w w1 v v1 ns add KV IV KV1 IV1) (k:Laid base w1 w2 v1 v2 (ns++add) add' KV1 IV1 KV2 IV2):Laid base w w2 v v2 ns (add++add') KV IV KV2 IV2:=by
 obtain ⟨B,b,c,l,p⟩:=h
 obtain ⟨q,s,t,d,z⟩:=k
 have f:=b.size
 refine ⟨by rw[<-List.append_assoc];exact q,b.andThen s (fun j hj=> ?_), ?_,fun j hj=> ?_,fun j hj1 hj2=> ?_⟩
 ·rcases c with e|⟨g,e,hg⟩
  ·exact Or.inr (e▸hj)
  ·rw[e] at hj;simp at hj;exact Or.inl (by omega)
 ·rcases t with e|⟨g,e,hg⟩
  ·rw[e];exact c
  ·exact Or.inr ⟨g,e,by omega⟩
 ·have e:=d j (by simp;omega)
  have o:=l j hj
  exact ⟨e.1.trans o.1,e.2.trans o.2⟩
 ·by_cases hlt:j<ns.length+add.length
  ·have e:=d j (by simp;omega)
   rw[e.1,e.2]
   exact p j hj1 hlt
  ·have e:=z j (by simp;omega) (by simp at hj2|-;omega)
   exact ⟨fun y hy=>Nat.le_trans f (e.1 y hy),fun y hy=>Nat.le_trans f (e.2 y hy)⟩
theorem Laid.below {base B:Nat} {w w1:World} {v v1:Value} {ns add:List VN} {KV IV KV1 IV1:Nat->Value} (h:Laid base w w1 v v1 ns add KV IV KV1 IV1) (hv:∀y,v.ownBlock=some y->base<=y) (hB:B<=base) (hb:base<=w.heap.size):Below B w w1:=
 (Below.refl _ _).grown h.2.1 (by omega) (fun k hk=>by have:=hv k hk;omega)


theorem Xa2 (w:World):Calls Tryz.prog 251 #[.agg #[]] w fun e w'=>e= .returned (.slice none 0 0)/\Below w.heap.size w w':=by
 go_enter Tryz.func251,Tryz.ntmps251
 go_wp2_with fail
 go_ret
 exact ⟨rfl,(Below.refl _ _).alloc (Nat.le_refl _) _⟩
theorem Xdf (n:Int) (w:World):Calls Tryz.prog 241 #[.agg #[.int .i64 n]] w fun e w'=>e= .returned (.slice none 0 0)/\Below w.heap.size w w':=by
 go_enter Tryz.func241,Tryz.ntmps241
 go_wp2_with fail
 go_ret
 exact ⟨rfl,(Below.refl _ _).alloc (Nat.le_refl _) _⟩
theorem Xdg (n:Int) (w:World):Calls Tryz.prog 243 #[.agg #[.int .i64 n]] w fun e w'=>e= .returned (.slice none 0 0)/\Below w.heap.size w w':=by
 go_enter Tryz.func243,Tryz.ntmps243
 go_wp2_with fail
 go_ret
 exact ⟨rfl,(Below.refl _ _).alloc (Nat.le_refl _) _⟩
theorem Xdh (s:ByteArray) (w:World):Calls Tryz.prog 245 #[.agg #[.string s]] w fun e w'=>e= .returned (.slice none 0 0)/\Below w.heap.size w w':=by
 go_enter Tryz.func245,Tryz.ntmps245
 go_wp2_with fail
 go_ret
 exact ⟨rfl,(Below.refl _ _).alloc (Nat.le_refl _) _⟩
theorem Kc (a:Option Addr) (n c:Nat) (w:World):Calls Tryz.prog 249 #[.agg #[.slice a n c]] w fun e w'=>e= .returned (.slice a n c)/\Below w.heap.size w w':=by
 go_enter Tryz.func249,Tryz.ntmps249
 go_wp2_with fail
 go_ret
 exact ⟨rfl,(Below.refl _ _).alloc (Nat.le_refl _) _⟩
theorem Um (a:Option Addr) (n c:Nat) (a':Option Addr) (n' c':Nat) (w:World):Calls Tryz.prog 247 #[.agg #[.slice a n c, .slice a' n' c']] w fun e w'=>e= .returned (.slice a' n' c')/\Below w.heap.size w w':=by
 go_enter Tryz.func247,Tryz.ntmps247
 go_wp2_with fail
 go_ret
 exact ⟨rfl,(Below.refl _ _).alloc (Nat.le_refl _) _⟩
theorem Xbk (x:Value) (w:World):(Instr.typeAssert (.iface 160 x) 52 113 true).run Tryz.prog w= .ok (.tuple #[.agg #[.int .i64 0], .bool false]) w:=by kernel_rfl
theorem Wv (x:Value) (w:World):(Instr.typeAssert (.iface 160 x) 52 114 true).run Tryz.prog w= .ok (.tuple #[.agg #[.int .i64 0], .bool false]) w:=by kernel_rfl
theorem Xbl (x:Value) (w:World):(Instr.typeAssert (.iface 160 x) 52 116 true).run Tryz.prog w= .ok (.tuple #[.agg #[.string ByteArray.empty], .bool false]) w:=by kernel_rfl
theorem Xgo (x:Value) (w:World):(Instr.typeAssert (.iface 160 x) 52 118 true).run Tryz.prog w= .ok (.tuple #[.agg #[.slice none 0 0, .slice none 0 0], .bool false]) w:=by kernel_rfl
theorem Xbm (x:Value) (w:World):(Instr.typeAssert (.iface 113 x) 52 113 true).run Tryz.prog w= .ok (.tuple #[x, .bool true]) w:=by kernel_rfl
theorem Xco (x:Value) (w:World):(Instr.typeAssert (.iface 114 x) 52 113 true).run Tryz.prog w= .ok (.tuple #[.agg #[.int .i64 0], .bool false]) w:=by kernel_rfl
theorem Ga (x:Value) (w:World):(Instr.typeAssert (.iface 114 x) 52 114 true).run Tryz.prog w= .ok (.tuple #[x, .bool true]) w:=by kernel_rfl
theorem Xbn (x:Value) (w:World):(Instr.typeAssert (.iface 116 x) 52 113 true).run Tryz.prog w= .ok (.tuple #[.agg #[.int .i64 0], .bool false]) w:=by kernel_rfl
theorem Ww (x:Value) (w:World):(Instr.typeAssert (.iface 116 x) 52 114 true).run Tryz.prog w= .ok (.tuple #[.agg #[.int .i64 0], .bool false]) w:=by kernel_rfl
theorem Un (x:Value) (w:World):(Instr.typeAssert (.iface 116 x) 52 116 true).run Tryz.prog w= .ok (.tuple #[x, .bool true]) w:=by kernel_rfl
theorem Xbo (x:Value) (w:World):(Instr.typeAssert (.iface 158 x) 52 113 true).run Tryz.prog w= .ok (.tuple #[.agg #[.int .i64 0], .bool false]) w:=by kernel_rfl
theorem Vm (x:Value) (w:World):(Instr.typeAssert (.iface 158 x) 52 114 true).run Tryz.prog w= .ok (.tuple #[.agg #[.int .i64 0], .bool false]) w:=by kernel_rfl
theorem Xbp (x:Value) (w:World):(Instr.typeAssert (.iface 158 x) 52 116 true).run Tryz.prog w= .ok (.tuple #[.agg #[.string ByteArray.empty], .bool false]) w:=by kernel_rfl
theorem Xgp (x:Value) (w:World):(Instr.typeAssert (.iface 158 x) 52 118 true).run Tryz.prog w= .ok (.tuple #[.agg #[.slice none 0 0, .slice none 0 0], .bool false]) w:=by kernel_rfl
theorem Xcp (x:Value) (w:World):(Instr.typeAssert (.iface 118 x) 52 113 true).run Tryz.prog w= .ok (.tuple #[.agg #[.int .i64 0], .bool false]) w:=by kernel_rfl
theorem Uo (x:Value) (w:World):(Instr.typeAssert (.iface 118 x) 52 114 true).run Tryz.prog w= .ok (.tuple #[.agg #[.int .i64 0], .bool false]) w:=by kernel_rfl
theorem Wx (x:Value) (w:World):(Instr.typeAssert (.iface 118 x) 52 116 true).run Tryz.prog w= .ok (.tuple #[.agg #[.string ByteArray.empty], .bool false]) w:=by kernel_rfl
theorem Xdi (x:Value) (w:World):(Instr.typeAssert (.iface 118 x) 52 118 true).run Tryz.prog w= .ok (.tuple #[x, .bool true]) w:=by kernel_rfl
theorem Xza (n:Int) (w:World):(Instr.field 113 (.agg #[.int .i64 n]) 0).run Tryz.prog w= .ok (.int .i64 n) w:=by kernel_rfl
theorem Xf5 (n:Int) (w:World):(Instr.field 114 (.agg #[.int .i64 n]) 0).run Tryz.prog w= .ok (.int .i64 n) w:=by kernel_rfl
theorem Xm0 (s:ByteArray) (w:World):(Instr.field 116 (.agg #[.string s]) 0).run Tryz.prog w= .ok (.string s) w:=by kernel_rfl
theorem X2l (a:Option Addr) (n c:Nat) (y:Value) (w:World):(Instr.field 118 (.agg #[.slice a n c,y]) 0).run Tryz.prog w= .ok (.slice a n c) w:=by kernel_rfl
theorem Below.next {w w1 w2:World} (h:Below w.heap.size w w1) (k:Below w1.heap.size w1 w2):Below w.heap.size w w2:=h.trans (k.mono h.size)


theorem Xxv {vs:List VN} {k:Nat} (h:k<vs.length):vs.take (k+1)=vs.take k++ [Xb vs k]:=by
 rw[List.take_add_one,List.getElem?_eq_getElem h]
 simp[Xb,h]
def Gj (l:List Int) (d:Int) (k:Nat):List Int:=(l.take k).map (· +d)
theorem Xuu (l:List Int) (d:Int):Gj l d 0= []:=by simp[Gj]
theorem Xxw {l:List Int} {d:Int} {k:Nat} (h:k<=l.length):(Gj l d k).length=k:=by unfold Gj;rw[List.length_map,List.length_take];omega
theorem Xuv {l:List Int} {d:Int} {k:Nat} (h:k<l.length):Gj l d (k+1)=Gj l d k++ [Xj l k+d]:=by
 unfold Gj
 rw[List.take_add_one,List.getElem?_eq_getElem h,List.map_append,Y8 h]
 simp
theorem Xxx (l:List Int) (d:Int):Gj l d l.length=l.map (· +d):=by simp[Gj]
def X1d (x:VN):Prop:=x.keys.length<=100000/\x.kids.length<=100000/\∀j,j<x.kids.length->-1000000<=Xj x.kids j/\Xj x.kids j<=1000000
theorem Xo6 (w:World) (b:Nat) (c0 c1 c2 c3 c4:Value) (hb:w.heap.size=b):∀j u,[c0,c1,c2,c3,c4][j]? =some u->(w.alloc (.cells #[c0,c1,c2,c3,c4] 75)).cell? ((⟨b,0,none⟩:Addr).add j)=some u:=by
 subst hb;exact World.news_of_block (cs:= #[c0,c1,c2,c3,c4]) (heap_alloc_new w _)
set_option maxRecDepth 100000 in
theorem Xli (B base:Nat) (v u:Value) (ns vs:List VN) (KV IV:Nat->Value) (w:World) (h:Nest base w v ns KV IV) (hu:NodesAt B w u vs) (hB:B<=base) (hb:base<=w.heap.size) (hn:ns.length+vs.length<=100000) (hnear:∀i,i<vs.length->X1d (Xb vs i)):
  Calls Tryz.prog 83 #[v,u] w fun e w'=>∃v' KV' IV',e= .returned v'/\Laid base w w' v v' ns (vs.map (X5 (ns.length:Int))) KV IV KV' IV':=by
 have H:=Xa h
 have HU:=Xa hu
 have b7:=Xa hnear
 have b8:=Xa (fun y hy=>(h.row.lt y hy).1)
 obtain ⟨av,cv,rfl⟩:=Xg h.row
 obtain ⟨c9,au,cu,rfl,bo⟩:=hu
 have b9:=Xa bo
 clear h hnear bo
 obtain ⟨i0,ca,cb,cc,cd⟩:=info_parts Kl
 obtain ⟨i1,ce,cf,cg,ch⟩:=info_parts Wj
 obtain ⟨i2,cj,cl,cm,cn⟩:=info_parts Wi
 obtain ⟨D,hD⟩:∃D,ns.length=D:=⟨_,rfl⟩
 have HD:=Xa hD
 rw[hD] at hn|-
 clear hD
 go_enter Tryz.func83,Tryz.ntmps83
 go_wp2_with fail
 go_loopw [0,6] (fun o i wr=>∃(c:Nat) (KV' IV':Nat->Value),c<=vs.length/\i= .int .i64 c/\Laid base w wr (.slice av D cv) o ns ((vs.take c).map (X5 (D:Int))) KV IV KV' IV') (fun _ i _=>vs.length-(intOf i).toNat)
 case atStart=>exact ⟨0,KV,IV,Nat.zero_le _,rfl,by have:=Laid.refl H.out;rw[HD.out] at this;simpa using this⟩
 case round=>
  obtain ⟨c,KV',IV',hc,rfl,d⟩:=hrel
  have Z:=Xa d
  have bp:Below B w wr:=d.below (by have:=b8.out;rw[HD.out] at this;exact this) hB hb
  have zs:=bp.size
  obtain ⟨ao,co,eo⟩:=Xg d.1.row
  obtain ⟨M,hM⟩:∃M,(ns++(vs.take c).map (X5 (D:Int))).length=M:=⟨_,rfl⟩
  have bq:=Xa hM
  have cp:Hid (M=D+c):=by rw[Hid];rw[<-hM,List.length_append,HD.out,List.length_map,List.length_take];omega
  rw[hM] at eo
  subst eo
  clear d hM
  by_cases hlt:c<vs.length
  ·have da:M+1<=100000:=by have:=cp.out;omega
   obtain ⟨b0,o0,rfl,cq,P⟩:=b9.out (by omega)
   obtain ⟨ka,ki,br⟩:=P c hlt
   have g:=br.below bp cq
   have c0:=g.c0
   have c1:=g.c1
   have c2:=g.c2
   have c3:=g.c3
   have c4:=g.c4
   obtain ⟨_,_,aK,cK,eK,G⟩:=g.inn.keys
   obtain ⟨_,db,aI,cI,eI,bs⟩:=g.inn.kids
   subst eK eI
   have cr:=Xa G
   have cs:=Xa bs
   have F:=b7.out c hlt
   have ct:=Xa F.2.2
   have cw:=F.1
   have l:=F.2.1
   clear br g G bs P F
   obtain ⟨p,bh⟩:∃p,(Xb vs c).keys.length=p:=⟨_,rfl⟩
   obtain ⟨V,bi⟩:∃V,(Xb vs c).kids.length=V:=⟨_,rfl⟩
   have bj:=Xa bh
   have J:=Xa bi
   rw[bh] at c3 cw
   rw[bi] at c4 l
   clear bh bi
   obtain ⟨R,ba⟩:∃R,wr.alloc (.cells #[.int .i64 (Xb vs c).kind, .int .i64 (Xb vs c).n, .string (Xb vs c).s, .slice aK p cK, .slice aI V cI] 75)=R:=⟨_,rfl⟩
   have bl:=Mid.start (c0:= .int .i64 (Xb vs c).kind) (c1:= .int .i64 (Xb vs c).n) (c2:= .string (Xb vs c).s) (c3:= .slice aK p cK) (c4:= .slice aI V cI) Z.out.1 (by omega) (Below.refl _ wr) (Below.refl _ _)
   rw[ba] at bl
   have bm:=Xa bl
   have z1:R.heap.size=wr.heap.size+1:=by rw[<-ba];simp
   have bt:Hid (Below wr.heap.size wr R):=by rw[Hid,<-ba];exact (Below.refl _ _).alloc (Nat.le_refl _) _
   have bd:Hid (0<p->∃ad,aK=some ad/\∀j u,((Xb vs c).keys.map Value.string)[j]? =some u->(R.alloc (.cells #[] 9)).cell? (ad.add j)=some u):=by
    intro hp
    obtain ⟨bk,ok,rfl,bu,bb⟩:=cr.out (by rw[bj.out];exact hp)
    refine ⟨_,rfl,fun j u hj=> ?_⟩
    have bv:j<(Xb vs c).keys.length:=by have:=(List.getElem?_eq_some_iff.1 hj).1;simpa using this
    rw[show (⟨bk,ok,none⟩:Addr).add j=⟨bk,ok+j,none⟩ by simp[Addr.add],Xc ((Below.refl _ R).alloc (Nat.le_refl _) _) (by omega),Xc bt.out (by omega),bb j bv]
    simp[bv,Xf] at hj|-
    exact hj
   have be:Hid ((R.alloc (.cells #[] 9)).ownsRow wr.heap.size 9 1 (.slice (some ⟨wr.heap.size+1,0,none⟩) 0 0) 0 []):=by
    have:=World.ownsRow_lit (base:=wr.heap.size) (e:=9) (size:=1) R #[] 0 (by omega) (by simp[maxLen]) rfl
    rw[z1] at this
    exact this
   have y3:R.cell? ⟨wr.heap.size,3,none⟩=some (.slice aK p cK):=bm.out.node.cellAt 3 (by omega)
   go_wp2_with (at_builtin;refine X6 rfl _ _ 72 rfl wr.heap.size 9 i1 (.string ByteArray.empty) 1 16 Tryz.underlying72 ce cf cg ch rfl (by decide) _ 0 [] rfl be.out aK p cK ((Xb vs c).keys.map .string) rfl (by simp[bj.out]) bd.out ?c2 ?c3 ?c4 ?c5 ?_)
   case c2=>intro u hu;first|rfl|(obtain ⟨q,_,rfl⟩:=List.mem_map.1 hu;rfl)
   case c3=>unfold maxLen;omega
   case c4=>omega
   case c5=>first|omega|(simp;omega)
   intro vk w5 l bw bx
   (try simp only[Nat.zero_add,List.nil_append] at l)
   have bz:R.grownBy w5 none:=(World.grownBy_alloc R _ none).andThen bw (fun j hj=>Or.inl (by simp[Value.ownBlock] at hj;omega))
   have L:=bm.out.grow bz
   have cx:Hid (∀j,j<(ns++(vs.take c).map (X5 (D:Int))).length+([]:List VN).length->∀y,vk.ownBlock=some y->(KV' j).ownBlock≠some y):=by
    intro j hj y hy e
    have h1:=((Z.out.1.rk j (by simpa using hj)).lt y e).2
    have h2:=(l.lt y hy).1
    omega
   have S:=l.kept (L.node.stored 3 vk).2 (Yk l L.node (by decide))
   obtain ⟨ak,ck,cy⟩:=Xg l
   subst cy
   have bn:=(L.put 3 (.slice ak p ck)).kid0
   have bf:=S.alloc (.cells #[] 2)
   have x3:w5.cell? ⟨wr.heap.size,3,none⟩=some (.slice aK p cK):=L.node.cellAt 3 (by omega)
   have f3:w5.frozen? ⟨wr.heap.size,3,none⟩=false:=L.node.frozenAt 3
   have e5:(w5.setCell ⟨wr.heap.size,3,none⟩ (.slice ak p ck)).heap.size=w5.heap.size:=by simp
   rw[e5] at bn
   have cz:=Xa bn
   have b1:=Xa bf
   clear bn bf S L bz l bw bx y3 e5 c0 c1 c2 c3 c4
   go_wp2_with fail
   generalize ((w5.setCell ⟨wr.heap.size,3,none⟩ (.slice ak p ck)).alloc (.cells #[] 2))=W7 at *
   clear x3 f3 bd be bm bt z1 ba bl
   obtain ⟨f,rfl⟩:∃f,f=wr:=⟨_,rfl⟩
   go_loopw [8,9] (fun it i wr=>∃k:Nat,k<=V/\i= .int .i64 k/\Mid base f wr f.heap.size (.slice ao M co) (.slice ao M co) it (ns++(vs.take c).map (X5 (D:Int))) [] (Gj (Xb vs c).kids (D:Int) k) [.int .i64 (Xb vs c).kind, .int .i64 (Xb vs c).n, .string (Xb vs c).s, .slice ak p ck, .slice aI V cI] KV' IV' KV' IV'/\wr.ownsRow f.heap.size 9 1 (.slice ak p ck) p ((Xb vs c).keys.map .string)) (fun _ i _=>V-(intOf i).toNat)
   case atStart=>exact ⟨0,Nat.zero_le _,rfl,by rw[Xuu];exact cz.out,b1.out⟩
   case round=>
    obtain ⟨k,hk,rfl,hm,S⟩:=hrel
    have HM:=Xa hm
    have bc:=Xa S
    have dc:=hm.frame.size
    have z:(Gj (Xb vs c).kids (D:Int) k).length=k:=Xxw (by rw[J.out];exact hk)
    obtain ⟨X,Y,ei⟩:=Xg hm.kids
    rw[z] at ei
    subst ei
    have b2:=Xa z
    have y4:wr.cell? ⟨f.heap.size,4,none⟩=some (.slice aI V cI):=HM.out.node.cellAt 4 (by omega)
    clear hm S z
    by_cases G:k<V
    ·obtain ⟨bk,ok,rfl,bu,bb⟩:=cs.out (by rw[J.out];omega)
     obtain ⟨Q,hQ⟩:∃Q,Xj (Xb vs c).kids k=Q:=⟨_,rfl⟩
     have dd:wr.cell? ⟨bk,ok+k,none⟩=some (.int .i64 Q):=by rw[<-hQ];exact (Xc (HM.out.keepL hB) bu).trans (bb k (by rw[J.out];exact G))
     have b3:=ct.out k (by rw[J.out];exact G)
     rw[hQ] at b3
     obtain ⟨de,df⟩:=b3
     have c6:Hid (Gj (Xb vs c).kids (D:Int) (k+1)=Gj (Xb vs c).kids (D:Int) k++ [Q+(D:Int)]):=by rw[Hid,Xuv (by rw[J.out];exact G),hQ]
     have b4:=Xa HM.out.kids
     clear hQ bb
     go_wp2_with (at_builtin;refine wpList_append_own_at _ rfl _ _ 73 rfl f.heap.size 2 i2 (.int .i64 0) 1 8 Tryz.underlying73 cj cl cm cn rfl (by decide) _ _ _ rfl (b4.out.alloc _) ⟨wr.heap.size,0,none⟩ 1 1 [.int .i64 (Q+(D:Int))] rfl rfl ?c1 ?c2 ?c3 ?c4 ?c5 ?_)
     case c1=>exact cell_one_new _ _ _
     case c2=>first|rfl|(intro u hu;simp at hu;subst hu;rfl)
     case c3=>first|omega|(rw[b2.out];unfold maxLen;omega)
     case c4=>first|omega|(rw[b2.out];omega)
     case c5=>first|omega|(simp;omega)
     intro dg w9 t b _ T
     have c7:=Xa (HM.out.kid1 t b (by simpa using T))
     have b5:=Xa (bc.out.kept ((World.grownBy_alloc wr _ _).trans b) (Yk bc.out b4.out (by decide)))
     clear t b T
     go_wp2_with fail
     go_roundw
     case rel=>exact ⟨k+1,by omega,by go_num,by rw[c6.out];exact c7.out,b5.out⟩
     case measure=>simp[intOf];omega
    ·obtain rfl:k=V:=by omega
     have C:=Xa (HM.out.put 4 (.slice X k Y))
     have f4:wr.frozen? ⟨f.heap.size,4,none⟩=false:=HM.out.node.frozenAt 4
     have b6:=Xa (bc.out.kept (HM.out.node.stored 4 (.slice X k Y)).2 (Yk bc.out HM.out.node (by decide)))
     have X0:(wr.setCell ⟨f.heap.size,4,none⟩ (.slice X k Y)).cell? ⟨f.heap.size,0,none⟩=some (.int .i64 (Xb vs c).kind):=C.out.node.cellAt 0 (by omega)
     have X1:(wr.setCell ⟨f.heap.size,4,none⟩ (.slice X k Y)).cell? ⟨f.heap.size,1,none⟩=some (.int .i64 (Xb vs c).n):=C.out.node.cellAt 1 (by omega)
     have X2:(wr.setCell ⟨f.heap.size,4,none⟩ (.slice X k Y)).cell? ⟨f.heap.size,2,none⟩=some (.string (Xb vs c).s):=C.out.node.cellAt 2 (by omega)
     have X3:(wr.setCell ⟨f.heap.size,4,none⟩ (.slice X k Y)).cell? ⟨f.heap.size,3,none⟩=some (.slice ak p ck):=C.out.node.cellAt 3 (by omega)
     have X4:(wr.setCell ⟨f.heap.size,4,none⟩ (.slice X k Y)).cell? ⟨f.heap.size,4,none⟩=some (.slice X k Y):=C.out.node.cellAt 4 (by omega)
     have HN:=Xa (C.out.nest.row.alloc (.cells #[.int .i64 (Xb vs c).kind, .int .i64 (Xb vs c).n, .string (Xb vs c).s, .slice ak p ck, .slice X k Y] 75))
     rw[List.append_nil,bq.out] at HN
     go_wp2_with (at_builtin;refine wpList_append_own_at _ rfl _ _ 25 rfl base 75 i0 zeroNode 5 80 Tryz.underlying25 ca cb cc cd rfl (by decide) _ _ _ rfl HN.out ⟨wr.heap.size,0,none⟩ 1 1 [.int .i64 (Xb vs c).kind, .int .i64 (Xb vs c).n, .string (Xb vs c).s, .slice ak p ck, .slice X k Y] rfl rfl ?c1 ?c2 ?c3 ?c4 ?c5 ?_)
     case c1=>exact Xo6 _ _ _ _ _ _ _ (by simp)
     case c2=>intro u hu;simp at hu;rcases hu with rfl|rfl|rfl|rfl|rfl<;>rfl
     case c3=>unfold maxLen;omega
     case c4=>omega
     case c5=>simp;omega
     intro v' w6 t b _ T
     have bg:=Mid.fin (x:=X5 (D:Int) (Xb vs c)) C.out (by show (Xb vs c).kids.map (· +(D:Int))=_;rw[<-J.out,Xxx]) (by show World.ownsRow _ _ _ _ _ (Xb vs c).keys.length _;rw[bj.out];exact b6.out) cx.out (by rw[List.append_nil,bq.out,List.map_take];exact t) b (by simpa using T)
     have HL:=Xa (Z.out.trans bg)
     have c8:Hid ((vs.take (c+1)).map (X5 (D:Int))=(vs.take c).map (X5 (D:Int))++ [X5 (D:Int) (Xb vs c)]):=by rw[Hid,Xxv hlt,List.map_append];rfl
     clear t b T bg
     go_wp2_with fail
     go_roundw
     case rel=>exact ⟨c+1,_,_,by omega,by go_num,by rw[c8.out];exact HL.out⟩
     case measure=>simp[intOf];omega
  ·obtain rfl:c=vs.length:=by omega
   go_wp2_with fail
   go_ret
   exact ⟨_,_,_,rfl,by have:=Z.out;rwa [List.take_length] at this⟩


def ValsAt (w:World) (it:Value) (m:Nat) (V:Nat->Value):Prop:=
 ∃a cap,it= .slice a m cap/\(0<m->∃b,a=some ⟨b,0,none⟩/\b<w.heap.size/\∀j,j<m->w.cell? ⟨b,j,none⟩=some (V j))/\∀j,j<m->∃t x,V j= .iface t x
theorem ValsAt.below {w w':World} {it:Value} {m:Nat} {V:Nat->Value} (h:ValsAt w it m V) (hb:Below w.heap.size w w'):ValsAt w' it m V:=by
 obtain ⟨a,d,e,g,l⟩:=h
 refine ⟨a,d,e,fun hp=> ?_,l⟩
 obtain ⟨b,o,c,f⟩:=g hp
 exact ⟨b,o,Nat.lt_of_lt_of_le c hb.size,fun j hj=>(Xc hb c).trans (f j hj)⟩
def Xz4 (w:World) (c:Value) (m:Nat) (V:Nat->Value) (h:Nat->Bool):Prop:=
 ∀w',Below w.heap.size w w'->∀k,k<m->Calls Tryz.prog 202 #[V k,c] w' fun e w''=>e= .returned (.bool (h k))/\Below w'.heap.size w' w''
set_option maxRecDepth 100000 in
theorem Xl7 (it c:Value) (m:Nat) (V:Nat->Value) (h:Nat->Bool) (w:World) (hv:ValsAt w it m V) (hs:Xz4 w c m V h) (hm:m<=1000000):
  Calls Tryz.prog 182 #[it, .func (.func 202) #[] #[c]] w fun e w'=>(∃r:Int,e= .returned (.int .i64 r)/\(decide (0<=r))=Zb h m/\-1<=r/\r<=1000000)/\Below w.heap.size w w':=by
 have D:=Xa hs
 have F:=Xa hv
 obtain ⟨a,G,rfl,_,_⟩:=hv
 clear hs
 go_enter Tryz.func182,Tryz.ntmps182
 go_wp2_with fail
 go_loopw [5,8] (fun _ i wr=>∃k:Nat,k<=m/\i= .int .i64 k/\Hid (Zb h k=false)/\Below w.heap.size w wr) (fun _ i _=>m-(intOf i).toNat)
 case atStart=>exact ⟨0,Nat.zero_le _,rfl,rfl,Below.refl _ _⟩
 case round=>
  obtain ⟨k,P,rfl,s,d⟩:=hrel
  by_cases hlt:k<m
  ·obtain ⟨R,y,J,z,B⟩:=F.out
   cases J
   obtain ⟨b,rfl,l,o⟩:=z (by omega)
   obtain ⟨t,x,C⟩:=B k hlt
   have g:=(Xc d l).trans (o k hlt)
   rw[C] at g
   have p:=Xa (D.out wr d k hlt)
   rw[C] at p
   clear z B o
   cases hh:h k
   ·rw[hh] at p
    have q:Hid (Zb h (k+1)=false):=by rw[Hid,Zb,s.out,hh];rfl
    go_wp2_with fail
    refine p.out.mono ?_
    rintro e L ⟨rfl,f⟩
    have j:=Xa (d.trans (f.mono d.size))
    clear f
    go_wp2_with fail
    go_roundw
    case rel=>exact ⟨k+1,by omega,by go_num,q,j.out⟩
    case measure=>simp[intOf];omega
   ·rw[hh] at p
    have M:=Xa (Xye hlt hh)
    go_wp2_with fail
    refine p.out.mono ?_
    rintro e L ⟨rfl,f⟩
    have j:=Xa (d.trans (f.mono d.size))
    clear f
    go_wp2_with fail
    go_ret
    exact ⟨⟨k,rfl,by rw[M.out];simp,by omega,by omega⟩,j.out⟩
  ·obtain rfl:k=m:=by omega
   go_wp2_with fail
   go_ret
   exact ⟨⟨-1,rfl,by rw[s.out];rfl,by omega,by omega⟩,d⟩
theorem Xhi (it c:Value) (m:Nat) (V:Nat->Value) (h:Nat->Bool) (w:World) (hv:ValsAt w it m V) (hs:Xz4 w c m V h) (hm:m<=1000000):
  Calls Tryz.prog 151 #[it, .func (.func 202) #[] #[c]] w fun e w'=>e= .returned (.bool (Zb h m))/\Below w.heap.size w w':=by
 have d:=Xa hs
 have f:=Xa hv
 obtain ⟨a,g,rfl,_,_⟩:=hv
 clear hs
 go_enter Tryz.func151,Tryz.ntmps151
 go_wp2_with fail
 refine (Xl7 _ c m V h w f.out d.out hm).mono ?_
 rintro e o ⟨⟨r,rfl,b,p,q⟩,j⟩
 have l:=Xa b
 clear b
 go_wp2_with fail
 all_goals
  go_ret
  exact ⟨Xi (by rw[<-l.out];try simp[*]),j⟩
set_option maxRecDepth 100000 in
theorem Xq9 (it it':Value) (m m':Nat) (V V':Nat->Value) (g:Nat->Nat->Bool) (w:World) (hv:ValsAt w it m V) (hv':ValsAt w it' m' V') (hm:m<=1000) (hm':m'<=1000)
  (hs:∀w1,Below w.heap.size w w1->∀xb i,i<m->w1.cell? ⟨xb,0,none⟩=some (V i)->xb<w1.heap.size->Xz4 w1 (.pointer (some ⟨xb,0,none⟩)) m' V' (g i)):
  Calls Tryz.prog 192 #[it,it'] w fun e w'=>∃r,e= .returned r/\w'.ownsRow w.heap.size 52 1 r (Yt (fun i=>Zb (g i) m') m).length ((Yt (fun i=>Zb (g i) m') m).map V)/\Below w.heap.size w w':=by
 have HV:=Xa hv
 have Z:=Xa hv'
 have HS:=Xa hs
 obtain ⟨i0,ba,bb,bc,bd⟩:=info_parts Xbf
 obtain ⟨a,bn,rfl,_,_⟩:=hv
 obtain ⟨a',bl,rfl,_,_⟩:=hv'
 clear hs
 go_enter Tryz.func192,Tryz.ntmps192
 go_wp2_with fail
 go_loopw [5,7,10] (fun o _ i wr=>∃(k:Nat),k<=m/\i= .int .i64 k/\wr.ownsRow w.heap.size 52 1 o (Yt (fun i=>Zb (g i) m') k).length ((Yt (fun i=>Zb (g i) m') k).map V)/\Below w.heap.size w wr) (fun _ _ i _=>m-(intOf i).toNat)
 case atStart=>exact ⟨0,Nat.zero_le _,rfl,World.ownsRow_nil _ _ _ _,Below.refl _ _⟩
 case round=>
  obtain ⟨k,hk,rfl,d,z⟩:=hrel
  have f:=Xa d
  have zs:=z.size
  obtain ⟨ao,co,eo⟩:=Xg d
  have S:=Xa (V5 (fun i=>Zb (g i) m') k)
  obtain ⟨F,G⟩:∃F,Yt (fun i=>Zb (g i) m') k=F:=⟨_,rfl⟩
  have J:=Xa G
  rw[G] at eo f S
  obtain ⟨N,Y⟩:∃N,F.length=N:=⟨_,rfl⟩
  have HN:=Xa Y
  rw[Y] at eo
  subst eo
  have bo:N<=k:=by rw[<-Y];exact S.out.1
  clear d G Y
  by_cases hlt:k<m
  ·obtain ⟨a2,bm,e2,hc,hi⟩:=HV.out
   cases e2
   obtain ⟨b,rfl,be,T⟩:=hc (by omega)
   obtain ⟨t,x,hx⟩:=hi k hlt
   have L:=(Xc z be).trans (T k hlt)
   rw[hx] at L
   have HX:=Xa hx
   clear hc hi T hx
   obtain ⟨s,c⟩:∃s,wr.alloc (.cells #[.iface t x] 52)=s:=⟨_,rfl⟩
   have M:s.cell? ⟨wr.heap.size,0,none⟩=some (.iface t x):=by rw[<-c];simp
   have bf:s.heap.size=wr.heap.size+1:=by rw[<-c];simp
   have B:Hid (Below w.heap.size w s):=by rw[Hid,<-c];exact z.alloc zs _
   have bg:Hid (s.ownsRow w.heap.size 52 1 (.slice ao N co) F.length (F.map V)):=by rw[Hid,<-c];exact f.out.alloc _
   have bh:=Xa c
   have bi:=Xa (HS.out s B.out wr.heap.size k hlt (by rw[HX.out];exact M) (by omega))
   have X:wr.heap.size<s.heap.size:=by omega
   have bj:=Xa M
   clear c M bf
   have HG:Hid (∃q,Zb (g k) m'=q):=⟨_,rfl⟩
   go_wp2_with fail
   rw[bh.out]
   refine (Xhi _ _ m' V' (g k) s (Z.out.below B.out) bi.out (by omega)).mono ?_
   rintro e w2 ⟨rfl,j⟩
   have C:=Xa (B.out.trans (j.mono B.out.size))
   have P:=Xa (Vg bg.out ((From.refl w.heap.size s).below j))
   have bp:=(Xc j X).trans bj.out
   have z2:=j.size
   clear j
   cases hq:Zb (g k) m'
   ·have R:Hid (Yt (fun i=>Zb (g i) m') (k+1)=F++ [k]):=by rw[Hid,Yt];simp only[hq];rw[J.out];rfl
    go_wp2_with (at_builtin;refine wpList_append_own_at _ rfl _ _ 58 rfl w.heap.size 52 i0 .nilIface 1 16 Tryz.underlying58 ba bb bc bd rfl (by decide) _ _ _ rfl (P.out.alloc _) ⟨w2.heap.size,0,none⟩ 1 1 [.iface t x] rfl rfl ?c1 ?c2 ?c3 ?c4 ?c5 ?_)
    case c1=>exact cell_one_new _ _ _
    case c2=>intro u hu;simp at hu;subst hu;rfl
    case c3=>have:=HN.out;unfold maxLen;omega
    case c4=>have:=HN.out;omega
    case c5=>simp;omega
    intro v' w5 D l _ _
    have p:Hid (w5.ownsRow w.heap.size 52 1 v' (Yt (fun i=>Zb (g i) m') (k+1)).length ((Yt (fun i=>Zb (g i) m') (k+1)).map V)):=by
     rw[Hid,R.out,List.map_append,List.length_append]
     simp only[List.map_cons,List.map_nil,List.length_singleton]
     rw[HX.out]
     exact D
    have bk:Hid (Below w.heap.size w w5):=(C.out.alloc C.out.size _).grown l (by have:=C.out.size;simp;omega) (fun y hy=>(P.out.lt y hy).1)
    clear D l
    go_wp2_with fail
    go_roundw
    case rel=>exact ⟨k+1,by omega,by go_num,p.out,bk.out⟩
    case measure=>simp[intOf];omega
   ·have R:Hid (Yt (fun i=>Zb (g i) m') (k+1)=F):=by rw[Hid,Yt];simp only[hq];rw[if_pos trivial];exact J.out
    have p:Hid (w2.ownsRow w.heap.size 52 1 (.slice ao N co) (Yt (fun i=>Zb (g i) m') (k+1)).length ((Yt (fun i=>Zb (g i) m') (k+1)).map V)):=by rw[Hid,R.out];exact P.out
    go_wp2_with fail
    go_roundw
    case rel=>exact ⟨k+1,by omega,by go_num,p.out,C.out⟩
    case measure=>simp[intOf];omega
  ·obtain rfl:k=m:=by omega
   have p:Hid (wr.ownsRow w.heap.size 52 1 (.slice ao N co) (Yt (fun i=>Zb (g i) m') k).length ((Yt (fun i=>Zb (g i) m') k).map V)):=by rw[Hid,J.out];exact f.out
   go_wp2_with fail
   go_ret
   exact ⟨_,rfl,p.out,z⟩
end Go.Proofs.YtdjddneidbddpaaGreatDoor
