import Derived.Test.YtdjddneidbddpaaGreatDoorSpc3
import Derived.Test.YtdjddneidbddpaaGreatDoorTo
import Derived.RangeFuncBox
import Derived.Test.YtdjddneidbddpaaGreatDoorPsZ
import Derived.Test.YtdjddneidbddpaaGreatDoorByP
import Derived.Maps.Range
namespace Go.Proofs.YtdjddneidbddpaaGreatDoor
set_option linter.unusedSectionVars false
set_option maxRecDepth 100000
set_option maxHeartbeats 6400000
open Go.RowKit
set_option linter.unusedSimpArgs false
set_option linter.unusedVariables false
def Uh (lo B:Nat) (w:World) (it:Value) (n:Nat) (P:Nat->Value->Prop):Prop:=
 ∃a cap,it= .slice a n cap/\(0<n->∃b,a=some ⟨b,0,none⟩/\lo<b/\b<B/\∀j,j<n->∃t x,w.cell? ⟨b,j,none⟩=some (.iface t x)/\P j (.iface t x))
def ValIs (lo B:Nat) (w:World) (vs:List VN):Nat->Nat->Value->Prop
 |0,_,_=>False
 |f+1,i,v=>
  ((Xb vs i).kind=1/\v= .iface 160 (.agg #[]))\/
  ((Xb vs i).kind=2/\v= .iface 113 (.agg #[.int .i64 (Xb vs i).n]))\/
  ((Xb vs i).kind=3/\v= .iface 114 (.agg #[.int .i64 (Xb vs i).n]))\/
  ((Xb vs i).kind=4/\v= .iface 116 (.agg #[.string (Xb vs i).s]))\/
  ((Xb vs i).kind=5/\∃it,v= .iface 158 (.agg #[it])/\Uh lo B w it (Xb vs i).kids.length (fun j u=>ValIs lo B w vs f (Xj (Xb vs i).kids j).toNat u))\/
  ((Xb vs i).kind=6/\∃ks it,v= .iface 118 (.agg #[ks,it])/\StrsAt lo w ks (Xb vs i).keys/\Uh lo B w it (Xb vs i).kids.length (fun j u=>ValIs lo B w vs f (Xj (Xb vs i).kids j).toNat u))
theorem ValIs.iface {lo B:Nat} {w:World} {vs:List VN} {f i:Nat} {v:Value} (h:ValIs lo B w vs f i v):∃t x,v= .iface t x:=by
 cases f with
 |zero=>exact h.elim
 |succ f=>
  rcases h with ⟨_,rfl⟩|⟨_,rfl⟩|⟨_,rfl⟩|⟨_,rfl⟩|⟨_,it,rfl,_⟩|⟨_,ks,it,rfl,_⟩<;>exact ⟨_,_,rfl⟩
def Keep (lo B:Nat) (w w':World):Prop:=∀k,k≠lo->k<B->w'.heap[k]? =w.heap[k]?
theorem Keep.of_below {lo B:Nat} {w w':World} (h:Below B w w'):Keep lo B w w':=fun k _ hk=>h.block k hk
theorem Keep.setCell {lo B o:Nat} (w:World) (v:Value):Keep lo B w (w.setCell ⟨lo,o,none⟩ v):=fun k hk _=>Below.heap_setCell w _ v k hk
theorem Keep.trans {lo B:Nat} {a b c:World} (h:Keep lo B a b) (k:Keep lo B b c):Keep lo B a c:=fun i h1 h2=>(k i h1 h2).trans (h i h1 h2)
theorem Keep.cell {lo B:Nat} {w w':World} (h:Keep lo B w w') {b o:Nat} (h1:b≠lo) (h2:b<B):w'.cell? ⟨b,o,none⟩=w.cell? ⟨b,o,none⟩:=by
 unfold World.cell?
 rw[show w'.heap[(⟨b,o,none⟩:Addr).block]? =w.heap[(⟨b,o,none⟩:Addr).block]? from h b h1 h2]
theorem StrsAt.keep {lo B:Nat} {w w':World} {v:Value} {l:List ByteArray} (h:StrsAt lo w v l) (hk:Keep lo B w w') (hB:lo<=B):StrsAt lo w' v l:=by
 obtain ⟨d,f,a,c,e,g⟩:=h
 refine ⟨d,f,a,c,e,fun hl=> ?_⟩
 obtain ⟨b,o,j,p,q⟩:=g hl
 exact ⟨b,o,j,p,fun i hi=>(hk.cell (by omega) (by omega)).trans (q i hi)⟩
theorem ValIs.keep {lo B B':Nat} {w w':World} {vs:List VN} (hk:Keep lo B w w') (hB:B<=B') (hlo:lo<=B):∀{f i:Nat} {v:Value},ValIs lo B w vs f i v->ValIs lo B' w' vs f i v:=by
 intro f
 induction f with
 |zero=>intro i v h;exact h.elim
 |succ f ih=>
  intro i v h
  have d:∀c,Uh lo B w c (Xb vs i).kids.length (fun j u=>ValIs lo B w vs f (Xj (Xb vs i).kids j).toNat u)->Uh lo B' w' c (Xb vs i).kids.length (fun j u=>ValIs lo B' w' vs f (Xj (Xb vs i).kids j).toNat u):=by
   rintro c ⟨a,g,e,l⟩
   refine ⟨a,g,e,fun hn=> ?_⟩
   obtain ⟨b,o,p,q,s⟩:=l hn
   refine ⟨b,o,p,by omega,fun j hj=> ?_⟩
   obtain ⟨t,x,y,z⟩:=s j hj
   exact ⟨t,x,(hk.cell (by omega) q).trans y,ih z⟩
  rcases h with h|h|h|h|⟨hk5,c,e,hi⟩|⟨hk6,ks,c,e,hs,hi⟩
  ·exact Or.inl h
  ·exact Or.inr (Or.inl h)
  ·exact Or.inr (Or.inr (Or.inl h))
  ·exact Or.inr (Or.inr (Or.inr (Or.inl h)))
  ·exact Or.inr (Or.inr (Or.inr (Or.inr (Or.inl ⟨hk5,c,e,d c hi⟩))))
  ·exact Or.inr (Or.inr (Or.inr (Or.inr (Or.inr ⟨hk6,ks,c,e,hs.keep hk hlo,d c hi⟩))))
theorem ValIs.more {lo B:Nat} {w:World} {vs:List VN}:∀{f g i:Nat} {v:Value},f<=g->ValIs lo B w vs f i v->ValIs lo B w vs g i v:=by
 intro f
 induction f with
 |zero=>intro g i v _ h;exact h.elim
 |succ f ih=>
  intro g i v d h
  match g,d with
  |g+1,d=>
   have l:∀c,Uh lo B w c (Xb vs i).kids.length (fun j u=>ValIs lo B w vs f (Xj (Xb vs i).kids j).toNat u)->Uh lo B w c (Xb vs i).kids.length (fun j u=>ValIs lo B w vs g (Xj (Xb vs i).kids j).toNat u):=by
    rintro c ⟨a,o,e,p⟩
    refine ⟨a,o,e,fun hn=> ?_⟩
    obtain ⟨b,q,s,y,z⟩:=p hn
    refine ⟨b,q,s,y,fun j hj=> ?_⟩
    obtain ⟨t,x,C,D⟩:=z j hj
    exact ⟨t,x,C,ih (by omega) D⟩
   rcases h with h|h|h|h|⟨hk5,c,e,hi⟩|⟨hk6,ks,c,e,hs,hi⟩
   ·exact Or.inl h
   ·exact Or.inr (Or.inl h)
   ·exact Or.inr (Or.inr (Or.inl h))
   ·exact Or.inr (Or.inr (Or.inr (Or.inl h)))
   ·exact Or.inr (Or.inr (Or.inr (Or.inr (Or.inl ⟨hk5,c,e,l c hi⟩))))
   ·exact Or.inr (Or.inr (Or.inr (Or.inr (Or.inr ⟨hk6,ks,c,e,hs,l c hi⟩))))
theorem Xbb:(Tryz.prog.info? 52).map (fun i=>(i.zero,i.size,i.bytes))=some (some .nilIface,1,16):=by kernel_rfl
def W8 (VV:Nat->Value) (k j:Nat):Value:=if j<k then VV j else .nilIface
theorem Xub {w:World} {b t n k:Nat} {VV:Nat->Value} {v:Value} (h:w.rowIs b t n (W8 VV k)):(w.setCell ⟨b,k,none⟩ v).rowIs b t n (W8 (fun j=>if j=k then v else VV j) (k+1)):=by
 refine (h.set k _).congr fun i _=> ?_
 unfold W8
 by_cases e:i=k
 ·subst e;rw[if_pos rfl,if_pos (by omega)];simp
 ·rw[if_neg e];by_cases g:i<k
  ·rw[if_pos g,if_pos (by omega)];simp[e]
  ·rw[if_neg g,if_neg (by omega)]
theorem Zw {vs:List VN} {i j:Nat} (h:Z5 vs i=true) (hj:j<(Xb vs i).kids.length):0<=Xj (Xb vs i).kids j/\Xj (Xb vs i).kids j<=(i:Int)-1:=by
 unfold Z5 at h
 rw[List.all_eq_true] at h
 have:=h (Xj (Xb vs i).kids j) (by unfold Yc;rw[Y8 hj];exact List.getElem_mem _)
 simpa using this
theorem X01 {T:Nat->Option (Nat×Nat)} (hT:∀m p,T m=some p->p.1<=m):∀(l:List Int) (b h:Nat) (q:Nat×Nat),l.foldl (Xy T) (some (b,h))=some q->l.length<=b:=by
 intro l
 induction l with
 |nil=>intro b h q _;exact Nat.zero_le _
 |cons k l ih=>
  intro b h q e
  obtain ⟨p,f,_,c,d⟩:=Qa e
  have:=ih _ _ _ d
  have:=hT _ _ c
  simp only[List.length_cons]
  omega
theorem X4h {K:Nat->List Int} {n:Nat} {p:Nat×Nat} (e:tr K n=some p):(K n).length<=n:=by
 rw[Gy] at e
 cases hf:(K n).reverse.foldl (Xy (tr K)) (some (n,0)) with
 |none=>simp[hf] at e
 |some q=>have:=X01 (fun m p hp=>Ko hp) _ _ _ _ hf;simpa using this
theorem Xm {vs:List VN} (h:okB vs=true):(1<=vs.length/\vs.length<=80)/\(∀k,k<vs.length->Xz (Xb vs k)=true/\Z5 vs k=true)/\(∀k,k<vs.length->∃p,tr (Yc vs) k=some p)/\(∀k,k<vs.length->(Xb vs k).kids.length<=k):=by
 have b:=Xil vs
 rw[h] at b
 unfold okB Gz at h
 unfold Xe4 at b
 simp only[Bool.and_eq_true,List.all_eq_true,List.mem_range,decide_eq_true_eq] at h b
 obtain ⟨⟨d,f⟩,j⟩:=h
 have c:∀k,k<vs.length->∃p,tr (Yc vs) k=some p:=fun k hk=>Option.isSome_iff_exists.1 (b.2.1 k hk)
 exact ⟨d,f,c,fun k hk=>by obtain ⟨p,g⟩:=c k hk;exact X4h g⟩
theorem Xoo {lo base e n:Nat} {w:World} {it:Value} {f:Nat->Value} {P:Nat->Value->Prop} (h:w.ownsRow base e 1 it n ((List.range n).map f)) (hlo:lo<base) (hP:∀j,j<n->∃t x,f j= .iface t x/\P j (.iface t x)):Uh lo w.heap.size w it n P:=by
 obtain ⟨_,h⟩:=h
 rcases h with ⟨rfl,rfl⟩|⟨g,cap,cur,rfl,hb,hg,hn,_,hsz,htk⟩
 ·exact ⟨none,0,rfl,fun h=>absurd h (by omega)⟩
 ·refine ⟨_,cap,rfl,fun hpos=>⟨g,rfl,by omega,(Array.getElem?_eq_some_iff.1 hg).1,fun j hj=> ?_⟩⟩
  obtain ⟨t,x,c,d⟩:=hP j hj
  refine ⟨t,x, ?_,d⟩
  have b:(cur.toList.take (n *1))[j]? =some (f j):=by rw[htk];simp[hj]
  rw[List.getElem?_take_of_lt (by omega),Array.getElem?_toList] at b
  simp[World.cell?,hg,b,c]


theorem Xzv (vs:List VN) (d:Int) (a n:Nat):run vs d a (n+1)=run vs d a n++ [X5 d (Xb vs (a+n))]:=by
 rw[<-Xc7];simp[run]
theorem Ql {w w':World} {base e s n:Nat} {v:Value} {xs:List Value} {B:Nat} (h:w.ownsRow base e s v n xs) (hb:Below B w w') (hB:∀x,v.ownBlock=some x->x<B):w'.ownsRow base e s v n xs:=by
 refine ⟨h.1, ?_⟩
 rcases h.2 with hn|⟨g,cap,cur,rfl,hg,hgg,rest⟩
 ·exact .inl hn
 ·exact .inr ⟨g,cap,cur,rfl,hg,(hb.block g (hB g rfl)).trans hgg,rest⟩
theorem Nest.below {base:Nat} {w w':World} {v:Value} {vs:List VN} {KV IV:Nat->Value} (h:Nest base w v vs KV IV) (hb:Below w.heap.size w w'):Nest base w' v vs KV IV:=
 ⟨Ql h.row hb (fun x hx=>(h.row.lt x hx).2),fun i hi=>Ql (h.rk i hi) hb (fun x hx=>((h.rk i hi).lt x hx).2),fun i hi=>Ql (h.ri i hi) hb (fun x hx=>((h.ri i hi).lt x hx).2),h.dkk,h.dii⟩
theorem X2p (w:World) (cs:Array Value) (t b j:Nat) (v:Value) (hb:b=w.heap.size) (h:cs[j]? =some v):(w.alloc (.cells cs t)).cell? ⟨b,j,none⟩=some v:=by
 subst hb
 rw[cell_of_row _ _ j cs t (0,0) (heap_alloc_new w _)];exact h
theorem Qj {w:World} {base base' e s n:Nat} {v:Value} {xs:List Value} (h:w.ownsRow base e s v n xs) (hb:base'<=base):w.ownsRow base' e s v n xs:=by
 refine ⟨h.1, ?_⟩
 rcases h.2 with hn|⟨g,cap,cur,rfl,hg,rest⟩
 ·exact .inl hn
 ·exact .inr ⟨g,cap,cur,rfl,by omega,rest⟩
theorem Je {w:World} {base e s n:Nat} {v:Value} {xs:List Value} (h:w.ownsRow base e s v n xs) {b o:Nat} (u:Value) (hne:∀x,v.ownBlock=some x->x≠b):(w.setCell ⟨b,o,none⟩ u).ownsRow base e s v n xs:=by
 refine ⟨h.1, ?_⟩
 rcases h.2 with hn|⟨g,cap,cur,rfl,hg,hgg,rest⟩
 ·exact .inl hn
 ·exact .inr ⟨g,cap,cur,rfl,hg,(Below.heap_setCell w _ u g (hne g rfl)).trans hgg,rest⟩
def Vl (l:List Int) (d:Int) (k:Nat):List Value:=(l.take k).map (fun q=> .int .i64 (q+d))
theorem Xnc (l:List Int) (d:Int):Vl l d 0= []:=by simp[Vl]
theorem Xnd {l:List Int} {d:Int} {k:Nat} (h:k<l.length):Vl l d (k+1)=Vl l d k++ [.int .i64 (Xj l k+d)]:=by
 unfold Vl
 rw[List.take_add_one,List.map_append,List.getElem?_eq_getElem h,Y8 h]
 simp
theorem Xqq (l:List Int) (d:Int):Vl l d l.length=(l.map (· +d)).map (.int .i64):=by simp[Vl]
theorem Xg {w:World} {base e s n:Nat} {v:Value} {xs:List Value} (h:w.ownsRow base e s v n xs):∃a c,v= .slice a n c:=by
 rcases h.2 with ⟨rfl,rfl⟩|⟨g,cap,cur,rfl,_⟩
 ·exact ⟨_,_,rfl⟩
 ·exact ⟨_,_,rfl⟩
theorem Xh9 (B:Nat) (v:Value) (vs:List VN) (n a h':Nat) (w:World) (h:NodesAt B w v vs) (hB:B<=w.heap.size) (h80:vs.length<=80) (hkids:∀k,k<vs.length->Z5 vs k=true/\(Xb vs k).kids.length<=80/\(Xb vs k).keys.length<=80) (hn:n<vs.length) (htr:tr (Yc vs) n=some (a,h')):
  Calls Tryz.prog 129 #[v, .int .i64 n] w fun e w'=>∃r KV IV,e= .returned r/\Nest w.heap.size w' r (run vs (-(a:Int)) a (n+1-a)) KV IV/\Below w.heap.size w w':=by
 have HV:=Xa h
 obtain ⟨db,av,de,rfl,Y⟩:=h
 obtain ⟨b0,o0,rfl,cd,hc⟩:=Y (by omega)
 have HC:=Xa hc
 have HK:=Xa hkids
 have ce:=Ko htr
 simp at ce
 have HF:Hid (trF (tr (Yc vs) n)=(a:Int)):=by rw[Hid,htr];rfl
 obtain ⟨i0,cf,cg,ch,cj⟩:=info_parts Kj
 obtain ⟨i1,ck,cl,cm,cn⟩:=info_parts Wh
 obtain ⟨i2,cq,cr,cs,ct⟩:=info_parts Wg
 clear Y hc hkids htr
 go_enter Tryz.func129,Tryz.ntmps129
 go_wp2_with fail
 refine (Xhx B _ vs vs.length n _ hn hn HV.out).mono ?_
 rintro e w1 ⟨rfl,rfl⟩
 obtain ⟨w,rfl⟩:∃w,w=w1:=⟨_,rfl⟩
 rw[HF.out]
 go_wp2_with fail
 have bs:Below w.heap.size w (w.alloc (.cells #[] 75)):=(Below.refl _ _).alloc (Nat.le_refl _) _
 have bt:Nest w.heap.size (w.alloc (.cells #[] 75)) (.slice (some ⟨w.heap.size,0,none⟩) 0 0) (run vs (-(a:Int)) a 0) (fun _=>undef) (fun _=>undef):=
  ⟨World.ownsRow_lit w #[] 0 (Nat.le_refl _) (by simp[maxLen]) rfl,fun i hi=>absurd hi (by simp[run]),fun i hi=>absurd hi (by simp[run]),fun i j hi=>absurd hi (by simp[run]),fun i j hi=>absurd hi (by simp[run])⟩
 go_loopw [7,8] (fun o i wr=>∃(c:Nat) (KV IV:Nat->Value),a<=c/\c<=n+1/\i= .int .i64 c/\Nest w.heap.size wr o (run vs (-(a:Int)) a (c-a)) KV IV/\Below w.heap.size w wr) (fun _ i _=>n+1-(intOf i).toNat)
 case atStart=>exact ⟨a,_,_,Nat.le_refl _,by omega,rfl,by rw[Nat.sub_self];exact bt,bs⟩
 case round =>
  obtain ⟨c,KV,IV,df,dg,rfl,L,be⟩:=hrel
  clear bs bt
  have HN:=Xa L
  have zs:=be.size
  obtain ⟨ao,co,rfl⟩:=Xg L.row
  by_cases hlt:c<=n
  ·obtain ⟨ka,ki,bu⟩:=HC.out c (by omega)
   have J:=bu.below (be.mono hB) cd
   have c0:=J.c0
   have c1:=J.c1
   have c2:=J.c2
   have c3:=J.c3
   have c4:=J.c4
   obtain ⟨_,_,P,R,eK,S⟩:=J.inn.keys
   obtain ⟨_,dh,T,V,eI,bv⟩:=J.inn.kids
   subst eK eI
   have cv:=Xa S
   have cw:=Xa bv
   have kk:=HK.out c (by omega)
   clear bu J S bv L
   have Z:(((wr.alloc (.cells #[.int .i64 (Xb vs c).kind, .int .i64 (Xb vs c).n, .string (Xb vs c).s, .slice P (Xb vs c).keys.length R, .slice T (Xb vs c).kids.length V] 75)).alloc (.cells #[] 9))).ownsRow w.heap.size 9 1 (.slice (some ⟨wr.heap.size+1,0,none⟩) 0 0) 0 []:=by
    have:=World.ownsRow_lit (base:=w.heap.size) (e:=9) (size:=1) (wr.alloc (.cells #[.int .i64 (Xb vs c).kind, .int .i64 (Xb vs c).n, .string (Xb vs c).s, .slice P (Xb vs c).keys.length R, .slice T (Xb vs c).kids.length V] 75)) #[] 0 (by simp;omega) (by simp[maxLen]) rfl
    simpa using this
   have bw:(((wr.alloc (.cells #[.int .i64 (Xb vs c).kind, .int .i64 (Xb vs c).n, .string (Xb vs c).s, .slice P (Xb vs c).keys.length R, .slice T (Xb vs c).kids.length V] 75)).alloc (.cells #[] 9))).cell? ⟨wr.heap.size,0,none⟩=some (.int .i64 (Xb vs c).kind):=by simp
   have bx:(((wr.alloc (.cells #[.int .i64 (Xb vs c).kind, .int .i64 (Xb vs c).n, .string (Xb vs c).s, .slice P (Xb vs c).keys.length R, .slice T (Xb vs c).kids.length V] 75)).alloc (.cells #[] 9))).cell? ⟨wr.heap.size,1,none⟩=some (.int .i64 (Xb vs c).n):=by simp
   have bz:(((wr.alloc (.cells #[.int .i64 (Xb vs c).kind, .int .i64 (Xb vs c).n, .string (Xb vs c).s, .slice P (Xb vs c).keys.length R, .slice T (Xb vs c).kids.length V] 75)).alloc (.cells #[] 9))).cell? ⟨wr.heap.size,2,none⟩=some (.string (Xb vs c).s):=by simp
   have b1:(((wr.alloc (.cells #[.int .i64 (Xb vs c).kind, .int .i64 (Xb vs c).n, .string (Xb vs c).s, .slice P (Xb vs c).keys.length R, .slice T (Xb vs c).kids.length V] 75)).alloc (.cells #[] 9))).cell? ⟨wr.heap.size,3,none⟩=some (.slice P (Xb vs c).keys.length R):=by simp
   have b2:(((wr.alloc (.cells #[.int .i64 (Xb vs c).kind, .int .i64 (Xb vs c).n, .string (Xb vs c).s, .slice P (Xb vs c).keys.length R, .slice T (Xb vs c).kids.length V] 75)).alloc (.cells #[] 9))).cell? ⟨wr.heap.size,4,none⟩=some (.slice T (Xb vs c).kids.length V):=by simp
   have b3:∀j,(((wr.alloc (.cells #[.int .i64 (Xb vs c).kind, .int .i64 (Xb vs c).n, .string (Xb vs c).s, .slice P (Xb vs c).keys.length R, .slice T (Xb vs c).kids.length V] 75)).alloc (.cells #[] 9))).frozen? ⟨wr.heap.size,j,none⟩=false:=fun j=>by simp
   have bn:Below wr.heap.size wr (((wr.alloc (.cells #[.int .i64 (Xb vs c).kind, .int .i64 (Xb vs c).n, .string (Xb vs c).s, .slice P (Xb vs c).keys.length R, .slice T (Xb vs c).kids.length V] 75)).alloc (.cells #[] 9))):=((Below.refl _ _).alloc (Nat.le_refl _) _).alloc (by simp) _
   have b4:(((wr.alloc (.cells #[.int .i64 (Xb vs c).kind, .int .i64 (Xb vs c).n, .string (Xb vs c).s, .slice P (Xb vs c).keys.length R, .slice T (Xb vs c).kids.length V] 75)).alloc (.cells #[] 9))).heap.size=wr.heap.size+1+1:=by simp
   have HX:=Xa (And.intro bw (And.intro bx (And.intro bz (And.intro b1 (And.intro b2 b3)))))
   have b5:=Xa bn
   have ba:=Xa b4
   have bg:=Xa Z
   have bh:Hid (0<(Xb vs c).keys.length->∃ad,P=some ad/\∀j u,((Xb vs c).keys.map Value.string)[j]? =some u->(((wr.alloc (.cells #[.int .i64 (Xb vs c).kind, .int .i64 (Xb vs c).n, .string (Xb vs c).s, .slice P (Xb vs c).keys.length R, .slice T (Xb vs c).kids.length V] 75)).alloc (.cells #[] 9))).cell? (ad.add j)=some u):=by
    intro hp
    obtain ⟨bk,ok,rfl,f,bf⟩:=cv.out hp
    refine ⟨_,rfl,fun j u hj=> ?_⟩
    have b6:j<(Xb vs c).keys.length:=by have:=(List.getElem?_eq_some_iff.1 hj).1;simpa using this
    rw[show (⟨bk,ok,none⟩:Addr).add j=⟨bk,ok+j,none⟩ by simp[Addr.add],Xc bn (by omega),bf j b6]
    simp[b6,Xf] at hj|-
    exact hj
   clear bw bx bz b1 b2 b3 bn b4 Z
   go_wp2_with (at_builtin;refine Yd rfl _ _ 72 rfl w.heap.size 9 i1 (.string ByteArray.empty) 1 16 Tryz.underlying72 ck cl cm cn rfl (by decide) _ 0 [] rfl bg.out P (Xb vs c).keys.length R ((Xb vs c).keys.map .string) rfl (by simp) bh.out ?c2 ?c3 ?c4 ?c5 ?_)
   case c2=>intro u hu;obtain ⟨q,_,rfl⟩:=List.mem_map.1 hu;rfl
   case c3=>unfold maxLen;omega
   case c4=>omega
   case c5=>simp;omega
   intro v' d bb G bi
   (try simp only[Nat.zero_add,List.nil_append] at bb)
   have bc:v'.ownBlock=some (wr.heap.size+1)\/v'.ownBlock=some (wr.heap.size+1+1):=by
    rcases bi with e|e
    ·exact Or.inl e
    ·exact Or.inr (by first|exact e|rw[e,ba.out])
   obtain ⟨t,D,rfl⟩:∃g p,v'= .slice (some ⟨g,0,none⟩) (Xb vs c).keys.length p:=by
    rcases bb.2 with ⟨rfl,_⟩|⟨g,p,cur,rfl,_⟩
    ·simp[Value.ownBlock] at bc
    ·exact ⟨g,p,rfl⟩
   have bj:t=wr.heap.size+1\/t=wr.heap.size+1+1:=by simpa [Value.ownBlock] using bc
   have b7:Below wr.heap.size wr d:=b5.out.grown G (by rw[ba.out];omega) (fun r hr=>by simp[Value.ownBlock] at hr;omega)
   have dc:=(bb.lt t rfl).2
   have z2:=b7.size
   have cx:=G.size
   rw[ba.out] at cx
   have M:some wr.heap.size≠(Value.slice (some ⟨wr.heap.size+1,0,none⟩) 0 0).ownBlock:=by simp[Value.ownBlock]
   have y0:=G.cell HX.out.1 M
   have y1:=G.cell HX.out.2.1 M
   have y2:=G.cell HX.out.2.2.1 M
   have y3:=G.cell HX.out.2.2.2.1 M
   have y4:=G.cell HX.out.2.2.2.2.1 M
   have yf:∀j,d.frozen? ⟨wr.heap.size,j,none⟩=false:=fun j=>(World.frozen?_of_block (G.block wr.heap.size (by rw[ba.out];omega) M)).trans (HX.out.2.2.2.2.2 j)
   have cy:=Xa b7
   have b8:=Xa bb
   have bo:=Xa bj
   clear bb G bi bc bj M c0 c1 c2 c3 c4
   have HZ:Hid (((d.setCell ⟨wr.heap.size,3,none⟩ (.slice (some ⟨t,0,none⟩) (Xb vs c).keys.length D)).alloc (.cells #[] 2)).cell? ⟨wr.heap.size,0,none⟩=some (.int .i64 (Xb vs c).kind)/\((d.setCell ⟨wr.heap.size,3,none⟩ (.slice (some ⟨t,0,none⟩) (Xb vs c).keys.length D)).alloc (.cells #[] 2)).cell? ⟨wr.heap.size,1,none⟩=some (.int .i64 (Xb vs c).n)/\((d.setCell ⟨wr.heap.size,3,none⟩ (.slice (some ⟨t,0,none⟩) (Xb vs c).keys.length D)).alloc (.cells #[] 2)).cell? ⟨wr.heap.size,2,none⟩=some (.string (Xb vs c).s)/\
     ((d.setCell ⟨wr.heap.size,3,none⟩ (.slice (some ⟨t,0,none⟩) (Xb vs c).keys.length D)).alloc (.cells #[] 2)).cell? ⟨wr.heap.size,3,none⟩=some (.slice (some ⟨t,0,none⟩) (Xb vs c).keys.length D)/\((d.setCell ⟨wr.heap.size,3,none⟩ (.slice (some ⟨t,0,none⟩) (Xb vs c).keys.length D)).alloc (.cells #[] 2)).cell? ⟨wr.heap.size,4,none⟩=some (.slice T (Xb vs c).kids.length V)/\∀j,((d.setCell ⟨wr.heap.size,3,none⟩ (.slice (some ⟨t,0,none⟩) (Xb vs c).keys.length D)).alloc (.cells #[] 2)).frozen? ⟨wr.heap.size,j,none⟩=false):=by
    have bd:∀j,((d.setCell ⟨wr.heap.size,3,none⟩ (.slice (some ⟨t,0,none⟩) (Xb vs c).keys.length D)).alloc (.cells #[] 2)).cell? ⟨wr.heap.size,j,none⟩=(d.setCell ⟨wr.heap.size,3,none⟩ (.slice (some ⟨t,0,none⟩) (Xb vs c).keys.length D)).cell? ⟨wr.heap.size,j,none⟩:=fun j=>Xc ((Below.refl _ _).alloc (Nat.le_refl _) _) (by simp;omega)
    refine ⟨?_, ?_, ?_, ?_, ?_,fun j=> ?_⟩
    ·rw[bd,World.cell?_setCell_other _ _ _ _ (by simp)];exact y0
    ·rw[bd,World.cell?_setCell_other _ _ _ _ (by simp)];exact y1
    ·rw[bd,World.cell?_setCell_other _ _ _ _ (by simp)];exact y2
    ·rw[bd];exact World.cell?_setCell_same _ _ _ y3
    ·rw[bd,World.cell?_setCell_other _ _ _ _ (by simp)];exact y4
    ·have hb:((d.setCell ⟨wr.heap.size,3,none⟩ (.slice (some ⟨t,0,none⟩) (Xb vs c).keys.length D)).alloc (.cells #[] 2)).heap[wr.heap.size]? =(d.setCell ⟨wr.heap.size,3,none⟩ (.slice (some ⟨t,0,none⟩) (Xb vs c).keys.length D)).heap[wr.heap.size]? :=((Below.refl _ (d.setCell ⟨wr.heap.size,3,none⟩ (.slice (some ⟨t,0,none⟩) (Xb vs c).keys.length D))).alloc (Nat.le_refl _) _).block _ (by simp;omega)
     rw[World.frozen?_of_block (a:=⟨wr.heap.size,j,none⟩) hb,World.frozen?_setCell];exact yf j
   have b9:Hid (Below wr.heap.size wr ((d.setCell ⟨wr.heap.size,3,none⟩ (.slice (some ⟨t,0,none⟩) (Xb vs c).keys.length D)).alloc (.cells #[] 2))):=(cy.out.setCell (p:=⟨wr.heap.size,3,none⟩) (Nat.le_refl _) _).alloc (by simp;omega) _
   have cz:Hid (((d.setCell ⟨wr.heap.size,3,none⟩ (.slice (some ⟨t,0,none⟩) (Xb vs c).keys.length D)).alloc (.cells #[] 2)).ownsRow w.heap.size 9 1 (.slice (some ⟨t,0,none⟩) (Xb vs c).keys.length D) (Xb vs c).keys.length ((Xb vs c).keys.map .string)):=by
    have h1:Below (wr.heap.size+1) d d:=Below.refl _ _
    refine World.ownsRow.alloc ?_ _
    refine ⟨b8.out.1, ?_⟩
    rcases b8.out.2 with ⟨e,_⟩|⟨g,p,cur,e,q1,q2,q3⟩
    ·simp at e
    ·have eg:t=g:=by simpa [Value.ownBlock] using (congrArg Value.ownBlock e)
     exact Or.inr ⟨g,p,cur,e,q1,(Below.heap_setCell d _ _ g (by rw[<-eg];rcases bo.out with x|x<;>simp[x]<;>omega)).trans q2,q3⟩
   have c6:Hid (((d.setCell ⟨wr.heap.size,3,none⟩ (.slice (some ⟨t,0,none⟩) (Xb vs c).keys.length D)).alloc (.cells #[] 2)).ownsRow d.heap.size 2 1 (.slice (some ⟨d.heap.size,0,none⟩) 0 0) 0 []):=by
    have:=World.ownsRow_lit (base:=d.heap.size) (e:=2) (size:=1) (d.setCell ⟨wr.heap.size,3,none⟩ (.slice (some ⟨t,0,none⟩) (Xb vs c).keys.length D)) #[] 0 (by simp) (by simp[maxLen]) rfl
    rw[Hid];simpa using this
   have c7:Hid (((d.setCell ⟨wr.heap.size,3,none⟩ (.slice (some ⟨t,0,none⟩) (Xb vs c).keys.length D)).alloc (.cells #[] 2)).heap.size=d.heap.size+1):=by rw[Hid];simp
   have f3:=yf 3
   go_wp2_with fail
   generalize ((d.setCell ⟨wr.heap.size,3,none⟩ (.slice (some ⟨t,0,none⟩) (Xb vs c).keys.length D)).alloc (.cells #[] 2))=W3 at *
   have z3:d.heap.size<W3.heap.size:=by have:=c7.out;omega
   clear y0 y1 y2 y3 y4 yf f3 HX b5 bg bh ba
   obtain ⟨z,rfl⟩:∃z,z=wr:=⟨_,rfl⟩
   go_loopw [10,11] (fun it i wr=>∃k:Nat,k<=(Xb vs c).kids.length/\i= .int .i64 k/\wr.ownsRow d.heap.size 2 1 it k (Vl (Xb vs c).kids (-(a:Int)) k)/\Below d.heap.size W3 wr) (fun _ i _=>(Xb vs c).kids.length-(intOf i).toNat)
   case atStart=>exact ⟨0,Nat.zero_le _,rfl,by rw[Xnc];exact c6.out,Below.refl _ _⟩
   case round=>
    obtain ⟨k,di,rfl,F,f⟩:=hrel
    have zk:=f.size
    by_cases S:k<(Xb vs c).kids.length
    ·obtain ⟨bk,ok,rfl,dd,bf⟩:=cw.out (by omega)
     have c8:=Zw kk.1 S
     obtain ⟨q,hq⟩:∃q:Nat,Xj (Xb vs c).kids k=(q:Int):=⟨(Xj (Xb vs c).kids k).toNat,by omega⟩
     have dj:q<c:=by omega
     have dk:wr.cell? ⟨bk,ok+k,none⟩=some (.int .i64 (q:Int)):=by
      rw[<-hq];exact (Xc f (by omega)).trans ((Xc b9.out (by omega)).trans (bf k S))
     have z4:=(Xc (o:=4) f (show z.heap.size<d.heap.size by omega)).trans HZ.out.2.2.2.2.1
     have HQ:Hid (Vl (Xb vs c).kids (-(a:Int)) (k+1)=Vl (Xb vs c).kids (-(a:Int)) k++ [.int .i64 ((q:Int)-(a:Int))]):=by
      rw[Hid,Xnd S,hq];rfl
     have c9:=Xa f
     clear bf hq c8
     go_wp2_with (at_builtin;refine wpList_append_own _ rfl _ _ 73 rfl d.heap.size 2 i2 (.int .i64 0) 1 8 Tryz.underlying73 cq cr cs ct rfl (by decide) _ _ _ rfl (F.alloc _) ⟨wr.heap.size,0,none⟩ 1 1 [.int .i64 ((q:Int)-(a:Int))] rfl rfl ?c1 ?c2 ?c3 ?c4 ?c5 ?_)
     case c1=>
      intro j u hj
      match j,hj with
      |0,hj=>simp at hj;subst hj;simp[Addr.add]
     case c2=>intro u hu;simp at hu;subst hu;rfl
     case c3=>unfold maxLen;omega
     case c4=>omega
     case c5=>simp;omega
     intro v' w5 C l _
     have bp:Below d.heap.size W3 w5:=(c9.out.alloc (by omega) _).grown l (by simp;omega) (fun r hr=>by
      rcases F.2 with ⟨rfl,_⟩|⟨g,cp,cu,rfl,hbg,_⟩
      ·simp[Value.ownBlock] at hr
      ·simp[Value.ownBlock] at hr;omega)
     rw[<-HQ.out] at C
     clear l F
     go_wp2_with fail
     go_roundw
     case rel=>exact ⟨k+1,by omega,by go_num,C,bp⟩
     case measure=>simp[intOf];omega
    ·obtain rfl:k=(Xb vs c).kids.length:=by omega
     obtain ⟨ai,ci,rfl⟩:=Xg F
     have dl:=f.size
     have X:z.heap.size<d.heap.size:=by omega
     have bp:Below z.heap.size z wr:=b9.out.trans (f.mono (by omega))
     have u0:=(Xc (o:=0) f X).trans HZ.out.1
     have u1:=(Xc (o:=1) f X).trans HZ.out.2.1
     have u2:=(Xc (o:=2) f X).trans HZ.out.2.2.1
     have u3:=(Xc (o:=3) f X).trans HZ.out.2.2.2.1
     have u4:=(Xc (o:=4) f X).trans HZ.out.2.2.2.2.1
     have uf:wr.frozen? ⟨z.heap.size,4,none⟩=false:=(World.frozen?_of_block (f.block z.heap.size X)).trans (HZ.out.2.2.2.2.2 4)
     have x0:=(World.cell?_setCell_other wr ⟨z.heap.size,4,none⟩ ⟨z.heap.size,0,none⟩ (.slice ai (Xb vs c).kids.length ci) (by simp)).trans u0
     have x1:=(World.cell?_setCell_other wr ⟨z.heap.size,4,none⟩ ⟨z.heap.size,1,none⟩ (.slice ai (Xb vs c).kids.length ci) (by simp)).trans u1
     have x2:=(World.cell?_setCell_other wr ⟨z.heap.size,4,none⟩ ⟨z.heap.size,2,none⟩ (.slice ai (Xb vs c).kids.length ci) (by simp)).trans u2
     have x3:=(World.cell?_setCell_other wr ⟨z.heap.size,4,none⟩ ⟨z.heap.size,3,none⟩ (.slice ai (Xb vs c).kids.length ci) (by simp)).trans u3
     have x4:=World.cell?_setCell_same wr ⟨z.heap.size,4,none⟩ (.slice ai (Xb vs c).kids.length ci) u4
     have ca:Hid (Below z.heap.size z (wr.setCell ⟨z.heap.size,4,none⟩ (.slice ai (Xb vs c).kids.length ci))):=bp.setCell (Nat.le_refl _) _
     have cb:=Xa ((HN.out.below ca.out).below ((Below.refl _ (wr.setCell ⟨z.heap.size,4,none⟩ (.slice ai (Xb vs c).kids.length ci))).alloc (Nat.le_refl _) (.cells #[.int .i64 (Xb vs c).kind, .int .i64 (Xb vs c).n, .string (Xb vs c).s, .slice (some ⟨t,0,none⟩) (Xb vs c).keys.length D, .slice ai (Xb vs c).kids.length ci] 75)))
     have bq:=Xa F
     have dm:(run vs (-(a:Int)) a (c-a)).length<=80:=by rw[K6];omega
     clear F
     go_wp2_with (at_builtin;refine wpList_append_own _ rfl _ _ 25 rfl w.heap.size 75 i0 zeroNode 5 80 Tryz.underlying25 cf cg ch cj rfl (by decide) _ _ _ rfl cb.out.row ⟨wr.heap.size,0,none⟩ 1 1 [.int .i64 (Xb vs c).kind, .int .i64 (Xb vs c).n, .string (Xb vs c).s, .slice (some ⟨t,0,none⟩) (Xb vs c).keys.length D, .slice ai (Xb vs c).kids.length ci] rfl rfl ?c1 ?c2 ?c3 ?c4 ?c5 ?_)
     case c1=>
      intro j u hj
      have dp:j<5:=by have:=(List.getElem?_eq_some_iff.1 hj).1;simpa using this
      rw[show (⟨wr.heap.size,0,none⟩:Addr).add j=⟨wr.heap.size,j,none⟩ by simp[Addr.add];omega]
      exact X2p _ _ _ _ j u (by simp) (by simpa using hj)
     case c2=>intro u hu;simp at hu;rcases hu with rfl|rfl|rfl|rfl|rfl<;>rfl
     case c3=>unfold maxLen;omega
     case c4=>omega
     case c5=>simp;omega
     intro v' w6 C l _
     have cc:=Je (Ql cz.out f (fun x hx=>by simp[Value.ownBlock] at hx;omega)) (b:=z.heap.size) (o:=4) (.slice ai (Xb vs c).kids.length ci) (fun x hx=>by simp[Value.ownBlock] at hx;have:=bo.out;omega)
     have br:=Je (Qj bq.out (show w.heap.size<=d.heap.size by omega)) (b:=z.heap.size) (o:=4) (.slice ai (Xb vs c).kids.length ci) (fun x hx=>by have:=(bq.out.lt x hx).1;omega)
     rw[Xqq] at br
     have bl:=Nest.snoc (x:=X5 (-(a:Int)) (Xb vs c)) cb.out (cc.alloc _) (by simpa [X5] using br.alloc _)
      (fun i hi y hy h2=>by have:=((HN.out.rk i hi).lt y h2).2;have:=bo.out;simp[Value.ownBlock] at hy;omega)
      (fun i hi y hy h2=>by have:=((HN.out.ri i hi).lt y h2).2;have:=(bq.out.lt y hy).1;omega) C l
     have da:Below w.heap.size w w6:=((be.trans (ca.out.mono zs)).alloc (by simp;omega) _).grown l (by simp;omega) (fun r hr=>(HN.out.row.lt r hr).1)
     have bm:run vs (-(a:Int)) a (c-a)++ [X5 (-(a:Int)) (Xb vs c)]=run vs (-(a:Int)) a (c+1-a):=by rw[show c+1-a=(c-a)+1 by omega,Xzv,show a+(c-a)=c by omega]
     rw[bm] at bl
     clear l C cc br bm
     go_wp2_with fail
     go_roundw
     case rel=>exact ⟨c+1,_,_,by omega,by omega,by go_num,bl,da⟩
     case measure=>simp[intOf];omega
  ·obtain rfl:c=n+1:=by omega
   go_wp2_with fail
   go_ret
   exact ⟨_,KV,IV,rfl,HN.out,be⟩


theorem From.only {base:Nat} {P:Nat->Prop} {a w w':World} (h:From base a w) (ho:Only P w w') (hP:∀c,P c->c<base):From base a w':=
 ⟨Nat.le_trans h.1 ho.1,fun c h1 h2=>(ho.2 c (by have:=h.1;omega) (fun p=>by have:=hP c p;omega)).trans (h.2 c h1 h2)⟩
theorem Nest.from {base:Nat} {w w':World} {v:Value} {vs:List VN} {KV IV:Nat->Value} (h:Nest base w v vs KV IV) (hf:From base w w'):Nest base w' v vs KV IV:=
 ⟨Vd h.row hf,fun i hi=>Vd (h.rk i hi) hf,fun i hi=>Vd (h.ri i hi) hf,h.dkk,h.dii⟩
def blk (v:Value):Nat:=(v.ownBlock).getD 0
def Jz (vs:List VN) (i:Nat):Nat:=(Xb vs i).keys.length
def J0 (vs:List VN) (i:Nat):Nat:=(Xb vs i).kids.length
def Few (vs:List VN):Prop:=vs.length<=80/\∀i,i<vs.length->(Xb vs i).keys.length<=80/\(Xb vs i).kids.length<=80
theorem Nest.mark {base:Nat} {w:World} {a:Option Addr} {n c:Nat} {vs:List VN} {KV IV:Nat->Value} (h:Nest base w (.slice a n c) vs KV IV) (hl:vs.length=n) (hf:Few vs):
  0<n->a=some ⟨blk (.slice a n c),0,none⟩/\Marky base w (blk (.slice a n c)) n (Jz vs) (J0 vs) (fun i=>blk (KV i)) (fun i=>blk (IV i)):=by
 subst hl
 intro b
 obtain ⟨g,d,e,_⟩:=h.row.form b
 cases e
 exact ⟨rfl,Nest.marky h (by have:=hf.1;omega) (fun i hi=>by have:=hf.2 i hi;omega)⟩
def Uu (r:Value) (n:Nat) (K I:Nat->Value) (x:Nat):Prop:=r.ownBlock=some x\/∃j,j<n/\((K j).ownBlock=some x\/(I j).ownBlock=some x)
theorem Nest.inn {base:Nat} {w:World} {v:Value} {vs:List VN} {KV IV:Nat->Value} (h:Nest base w v vs KV IV) {x:Nat} (hx:Uu v vs.length KV IV x):base<=x/\x<w.heap.size:=by
 rcases hx with hx|⟨j,hj,hx|hx⟩
 ·exact h.row.lt x hx
 ·exact (h.rk j hj).lt x hx
 ·exact (h.ri j hj).lt x hx
theorem Xcv {w:World} {base e s n:Nat} {v:Value} {xs:List Value} (h:w.ownsRow base e s v n xs) (hn:0<n):v.ownBlock=some (blk v):=by
 obtain ⟨g,b,rfl,_⟩:=h.form hn
 rfl
theorem Nest.marked {base:Nat} {w:World} {v:Value} {vs:List VN} {KV IV:Nat->Value} (h:Nest base w v vs KV IV) {x:Nat} (hx:Xaj (blk v) vs.length (Jz vs) (J0 vs) (fun i=>blk (KV i)) (fun i=>blk (IV i)) x):Uu v vs.length KV IV x:=by
 obtain ⟨d,rfl|⟨i,b,⟨c,rfl⟩|⟨c,rfl⟩⟩⟩:=hx
 ·exact Or.inl (Xcv h.row d)
 ·exact Or.inr ⟨i,b,Or.inl (Xcv (h.rk i b) c)⟩
 ·exact Or.inr ⟨i,b,Or.inr (Xcv (h.ri i b) c)⟩
theorem Nest.far {base base':Nat} {w:World} {v r:Value} {n:Nat} {xs:List Value} {vs:List VN} {KV IV:Nat->Value} (h:Nest base w v vs KV IV) (hr:w.ownsRow base' 25 1 r n xs) {x:Nat} (hx:Uu v vs.length KV IV x):r.ownBlock≠some x:=by
 intro e
 rcases hx with hx|⟨j,hj,hx|hx⟩
 ·rcases Yj hr h.row (by decide) with e2|e2
  ·rw[e] at e2;cases e2
  ·exact e2 (e.trans hx.symm)
 ·rcases Yj hr (h.rk j hj) (by decide) with e2|e2
  ·rw[e] at e2;cases e2
  ·exact e2 (e.trans hx.symm)
 ·rcases Yj hr (h.ri j hj) (by decide) with e2|e2
  ·rw[e] at e2;cases e2
  ·exact e2 (e.trans hx.symm)
def Xjp {α:Type} (F:Nat->α) (k:Nat) (v:α) (i:Nat):α:=if i=k then v else F i
theorem Xex {α:Type} (F:Nat->α) (k:Nat) (v:α):Xjp F k v k=v:=if_pos rfl
theorem Xdk {α:Type} (F:Nat->α) {k i:Nat} (v:α) (h:i≠k):Xjp F k v i=F i:=if_neg h
structure Rows2 (base:Nat) (w:World) (v:Value) (m:Nat) (L:Nat->List VN) (rs:Nat->Value) (KV IV:Nat->Nat->Value) (lo:Nat->Nat):Prop where
 row:w.ownsRow base 25 1 v m ((List.range m).map rs)
 nest:∀i,i<m->Nest (lo i) w (rs i) (L i) (KV i) (IV i)
 low:∀i,i<=m->base<=lo i
 mono:∀i j,i<=j->j<=m->lo i<=lo j
 top:lo m<=w.heap.size
 inn:∀i,i<m->∀x,Uu (rs i) (L i).length (KV i) (IV i) x->x<lo (i+1)
theorem Rows2.start {base:Nat} {w:World} {v:Value} (h:w.ownsRow base 25 1 v 0 []) (hb:base<=w.heap.size) (L:Nat->List VN):Rows2 base w v 0 L (fun _=>undef) (fun _ _=>undef) (fun _ _=>undef) (fun _=>base):=
 ⟨by simpa using h,fun i hi=>absurd hi (by omega),fun _ _=>Nat.le_refl _,fun _ _ _ _=>Nat.le_refl _,hb,fun i hi=>absurd hi (by omega)⟩
theorem Rows2.below {base:Nat} {w w':World} {v:Value} {m:Nat} {L:Nat->List VN} {rs:Nat->Value} {KV IV:Nat->Nat->Value} {lo:Nat->Nat} (h:Rows2 base w v m L rs KV IV lo) (hb:Below w.heap.size w w'):Rows2 base w' v m L rs KV IV lo:=
 ⟨Ql h.row hb (fun x hx=>(h.row.lt x hx).2),fun i hi=>(h.nest i hi).below hb,h.low,h.mono,Nat.le_trans h.top hb.size,h.inn⟩
theorem Rows2.from {base:Nat} {w w':World} {v:Value} {m:Nat} {L:Nat->List VN} {rs:Nat->Value} {KV IV:Nat->Nat->Value} {lo:Nat->Nat} (h:Rows2 base w v m L rs KV IV lo) (hf:From base w w'):Rows2 base w' v m L rs KV IV lo:=
 ⟨Vd h.row hf,fun i hi=>(h.nest i hi).from (hf.mono (h.low i (by omega))),h.low,h.mono,Nat.le_trans h.top hf.1,h.inn⟩
theorem Xjq {m:Nat} {rs:Nat->Value} {r:Value}:(List.range (m+1)).map (Xjp rs m r)=(List.range m).map rs++ [r]:=by
 rw[List.range_succ,List.map_append]
 congr 1
 ·apply List.map_congr_left
  intro j b
  exact Xdk _ _ (by have:=List.mem_range.1 b;omega)
 ·simp[Xex]
theorem Rows2.snoc {base:Nat} {w w1 w5:World} {v v' r:Value} {m:Nat} {L:Nat->List VN} {rs:Nat->Value} {KV IV:Nat->Nat->Value} {lo:Nat->Nat} {K I:Nat->Value} {o:Obj} (h:Rows2 base w v m L rs KV IV lo) (hb:Below w.heap.size w w1) (hn:Nest w.heap.size w1 r (L m) K I)
  (hown:w5.ownsRow base 25 1 v' (m+1) ((List.range m).map rs++ [r])) (hg:(w1.alloc o).grownBy w5 v.ownBlock):
  Rows2 base w5 v' (m+1) L (Xjp rs m r) (Xjp KV m K) (Xjp IV m I) (fun i=>if i<m then lo i else if i=m then w.heap.size else w1.heap.size):=by
 have f:=h.below hb
 have c:w1.grownBy w5 v.ownBlock:=(World.grownBy_alloc w1 o _).trans hg
 have p:=hb.size
 have l:=c.size
 have kept:∀{b:Nat} {u:Value} {vs:List VN} {A C:Nat->Value},Nest b w1 u vs A C->Nest b w5 u vs A C:=fun hx=>hx.kept c (Yj hx.row f.row (by decide)) (fun i hi=>Yj (hx.rk i hi) f.row (by decide)) (fun i hi=>Yj (hx.ri i hi) f.row (by decide))
 refine ⟨by rw[Xjq];exact hown,fun i hi=> ?_,fun i hi=> ?_,fun i j hij hj=> ?_, ?_,fun i hi x hx=> ?_⟩
 ·by_cases e:i=m
  ·subst e
   simp only[Xex,Nat.lt_irrefl,if_true,if_false]
   exact kept hn
  ·simp only[Xdk _ _ e,if_pos (show i<m by omega)]
   exact kept (f.nest i (by omega))
 ·have q:=h.low m (Nat.le_refl _)
  have g:=h.top
  by_cases e:i<m
  ·simp only[if_pos e];exact h.low i (by omega)
  ·by_cases e2:i=m
   ·simp only[if_neg e,if_pos e2];omega
   ·simp only[if_neg e,if_neg e2];omega
 ·have g:=h.top
  by_cases e:j<m
  ·simp only[if_pos e,if_pos (show i<m by omega)];exact h.mono i j hij (by omega)
  ·by_cases e1:i<m
   ·have:=h.mono i m (by omega) (Nat.le_refl _)
    by_cases e2:j=m
    ·simp only[if_pos e1,if_neg e,if_pos e2];omega
    ·simp only[if_pos e1,if_neg e,if_neg e2];omega
   ·by_cases e2:j=m
    ·simp only[if_neg e1,if_neg e,if_pos e2,if_pos (show i=m by omega)];omega
    ·by_cases d:i=m
     ·simp only[if_neg e1,if_neg e,if_neg e2,if_pos d];omega
     ·simp only[if_neg e1,if_neg e,if_neg e2,if_neg d];omega
 ·simp only[if_neg (show ¬m+1<m by omega),if_neg (show ¬m+1=m by omega)];omega
 ·have g:=h.top
  by_cases e:i=m
  ·subst e
   simp only[Xex] at hx
   simp only[if_neg (show ¬i+1<i by omega),if_neg (show ¬i+1=i by omega)]
   exact (hn.inn hx).2
  ·simp only[Xdk _ _ e] at hx
   have:=h.inn i (by omega) x hx
   by_cases e2:i+1<m
   ·simp only[if_pos e2];exact this
   ·obtain d:i+1=m:=by omega
    rw[d] at this
    simp only[if_neg e2,if_pos d];omega
def Uv (B:Nat) (w:World) (v:Value) (m:Nat) (L:Nat->List VN):Prop:=
 m<=1048576/\∃a cap,v= .slice a m cap/\(0<m->∃b,a=some ⟨b,0,none⟩/\b<B/\∀i,i<m->∃r,w.cell? ⟨b,i,none⟩=some r/\NodesAt B w r (L i))
theorem Rows2.rows {base:Nat} {w:World} {v:Value} {m:Nat} {L:Nat->List VN} {rs:Nat->Value} {KV IV:Nat->Nat->Value} {lo:Nat->Nat} (h:Rows2 base w v m L rs KV IV lo) (hm:m<=80) (hf:∀i,i<m->Few (L i)/\∀j,j<(L i).length->Fits (Xb (L i) j)):Uv w.heap.size w v m L:=by
 obtain ⟨a,c,e⟩:=Xg h.row
 subst e
 refine ⟨by omega,a,c,rfl,fun hp=> ?_⟩
 obtain ⟨g,d,e,_,b⟩:=h.row.form hp
 cases e
 refine ⟨g,rfl,b,fun i hi=>⟨rs i, ?_,(h.nest i hi).nodes (by have:=(hf i hi).1.1;omega) (hf i hi).2⟩⟩
 rw[h.row.cellAt i (by omega)]
 simp[hi]


def Laid (base:Nat) (w w':World) (v v':Value) (ns add:List VN) (KV IV KV' IV':Nat->Value):Prop:=
 Nest base w' v' (ns++add) KV' IV'/\w.grownBy w' v.ownBlock/\(v'.ownBlock=v.ownBlock\/∃g,v'.ownBlock=some g/\w.heap.size<=g)/\(∀j,j<ns.length->KV' j=KV j/\IV' j=IV j)/\
  (∀j,ns.length<=j->j<ns.length+add.length->(∀y,(KV' j).ownBlock=some y->w.heap.size<=y)/\(∀y,(IV' j).ownBlock=some y->w.heap.size<=y))
structure Mid (base:Nat) (w wr:World) (nb:Nat) (v0 v kv:Value) (ns acc:List VN) (ks:List Int) (cs:List Value) (KV0 IV0 KV IV:Nat->Value):Prop where
 hbase:base<=w.heap.size
 v0b:∀y,v0.ownBlock=some y->base<=y
 nest:Nest base wr v (ns++acc) KV IV
 node:wr.ownsRow w.heap.size 75 5 (.slice (some ⟨nb,0,none⟩) 1 1) 1 cs
 kids:wr.ownsRow w.heap.size 2 1 kv ks.length (ks.map (.int .i64))
 vnb:v.ownBlock≠some nb
 frame:w.grownBy wr v0.ownBlock
 vat:v.ownBlock=v0.ownBlock\/∃g,v.ownBlock=some g/\w.heap.size<=g
 old:∀j,j<ns.length->KV j=KV0 j/\IV j=IV0 j
 new:∀j,ns.length<=j->j<ns.length+acc.length->(∀y,(KV j).ownBlock=some y->w.heap.size<=y)/\(∀y,(IV j).ownBlock=some y->w.heap.size<=y)
 ki:∀j,j<ns.length+acc.length->∀y,kv.ownBlock=some y->(IV j).ownBlock≠some y
theorem Xg3 {w w':World} {row:Option Nat} (h:Below w.heap.size w w'):w.grownBy w' row:=⟨h.os,h.tape,h.output,h.size,fun k hk _=>h.block k hk⟩
theorem Mid.start {base:Nat} {w w1 w2:World} {v:Value} {ns:List VN} {KV IV:Nat->Value} {c0 c1 c2 c3 c4:Value} (h:Nest base w v ns KV IV) (hb:base<=w.heap.size) (h1:Below w.heap.size w w1)
  (h2:Below (w1.alloc (.cells #[c0,c1,c2,c3,c4] 75)).heap.size (w1.alloc (.cells #[c0,c1,c2,c3,c4] 75)) w2):
  Mid base w w2 w1.heap.size v v (.slice none 0 0) ns [] [] [c0,c1,c2,c3,c4] KV IV KV IV:=by
 have b:Below w.heap.size w w2:=(h1.alloc h1.size _).trans (h2.mono (by have:=h1.size;simp;omega))
 have c:=World.ownsRow_lit (base:=w.heap.size) (e:=75) (size:=5) w1 #[c0,c1,c2,c3,c4] 1 h1.size (by simp[maxLen]) rfl
 refine ⟨hb,fun y hy=>(h.row.lt y hy).1,by simpa using h.below b,Ql c h2 (fun x hx=> ?_),World.ownsRow_nil _ _ _ _,fun e=> ?_,Xg3 b,Or.inl rfl,fun j _=>⟨rfl,rfl⟩,fun j h1 h2=> ?_,fun j hj y hy=> ?_⟩
 ·simp[Value.ownBlock] at hx;subst hx;simp
 ·have:=(h.row.lt _ e).2
  have:=h1.size
  omega
 ·simp at h2;omega
 ·simp[Value.ownBlock] at hy
theorem Mid.laid {base:Nat} {w wr w':World} {nb:Nat} {v0 v v' kv:Value} {ns acc add:List VN} {ks:List Int} {cs:List Value} {KV0 IV0 KV IV KV' IV':Nat->Value} (h:Mid base w wr nb v0 v kv ns acc ks cs KV0 IV0 KV IV)
  (l:Laid base wr w' v v' (ns++acc) add KV IV KV' IV'):Mid base w w' nb v0 v' kv ns (acc++add) ks cs KV0 IV0 KV' IV':=by
 obtain ⟨q,c,f,d,p⟩:=l
 have s:=(h.node.lt nb rfl).2
 have b:=h.frame.size
 refine ⟨h.hbase,h.v0b,by rw[<-List.append_assoc];exact q,h.node.kept c (Or.inr fun e=>h.vnb e.symm),h.kids.kept c (Yj h.kids h.nest.row (by decide)), ?_,h.frame.andThen c (fun j hj=> ?_), ?_,fun j hj=> ?_,fun j hj1 hj2=> ?_,fun j hj y hy=> ?_⟩
 ·rcases f with e|⟨g,e,hg⟩
  ·rw[e];exact h.vnb
  ·rw[e];intro t;simp at t;omega
 ·rcases h.vat with e|⟨g,e,hg⟩
  ·exact Or.inr (e▸hj)
  ·rw[e] at hj;simp at hj;exact Or.inl (by omega)
 ·rcases f with e|⟨g,e,hg⟩
  ·rw[e];exact h.vat
  ·exact Or.inr ⟨g,e,by omega⟩
 ·have e:=d j (by simp;omega)
  have o:=h.old j hj
  exact ⟨e.1.trans o.1,e.2.trans o.2⟩
 ·by_cases hlt:j<ns.length+acc.length
  ·have e:=d j (by simp;omega)
   rw[e.1,e.2]
   exact h.new j hj1 hlt
  ·have e:=p j (by simp;omega) (by simp at hj2|-;omega)
   exact ⟨fun y hy=>Nat.le_trans b (e.1 y hy),fun y hy=>Nat.le_trans b (e.2 y hy)⟩
 ·by_cases hlt:j<ns.length+acc.length
  ·rw[(d j (by simp;omega)).2]
   exact h.ki j hlt y hy
  ·intro e
   have:=(p j (by simp;omega) (by simp at hj|-;omega)).2 y e
   have:=(h.kids.lt y hy).2
   omega
theorem Mid.put {base:Nat} {w wr:World} {nb:Nat} {v0 v kv:Value} {ns acc:List VN} {ks:List Int} {cs:List Value} {KV0 IV0 KV IV:Nat->Value} (h:Mid base w wr nb v0 v kv ns acc ks cs KV0 IV0 KV IV) (j:Nat) (u:Value):
  Mid base w (wr.setCell ⟨nb,j,none⟩ u) nb v0 v kv ns acc ks (cs.set j u) KV0 IV0 KV IV:=by
 have b:=h.node.stored j u
 exact ⟨h.hbase,h.v0b,h.nest.kept b.2 (Or.inr h.vnb) (fun i hi=>Yj (h.nest.rk i hi) h.node (by decide)) (fun i hi=>Yj (h.nest.ri i hi) h.node (by decide)),b.1,h.kids.kept b.2 (Yj h.kids h.node (by decide)),h.vnb,
  h.frame.andThen b.2 (fun j hj=>Or.inl (by cases hj;exact (h.node.lt nb rfl).1)),h.vat,h.old,h.new,h.ki⟩
theorem Mid.kid1 {base:Nat} {w wr w5:World} {nb:Nat} {v0 v kv kv':Value} {ns acc:List VN} {ks:List Int} {cs:List Value} {KV0 IV0 KV IV:Nat->Value} {o:Obj} {q:Int} (h:Mid base w wr nb v0 v kv ns acc ks cs KV0 IV0 KV IV)
  (hown:w5.ownsRow w.heap.size 2 1 kv' (ks.length+1) (ks.map (.int .i64)++ [.int .i64 q])) (hg:(wr.alloc o).grownBy w5 kv.ownBlock) (hat:kv'.ownBlock=kv.ownBlock\/kv'.ownBlock=some (wr.heap.size+1)):
  Mid base w w5 nb v0 v kv' ns acc (ks++ [q]) cs KV0 IV0 KV IV:=by
 have b:wr.grownBy w5 kv.ownBlock:=(World.grownBy_alloc wr o _).trans hg
 have c:∀i,i<(ns++acc).length->(IV i).ownBlock=none\/(IV i).ownBlock≠kv.ownBlock:=by
  intro i d
  cases e:kv.ownBlock with
  |none=>cases f:(IV i).ownBlock with
   |none=>exact Or.inl rfl
   |some y=>exact Or.inr (by simp)
  |some y=>exact Or.inr (h.ki i (by simpa using d) y e)
 refine ⟨h.hbase,h.v0b,h.nest.kept b (Yj h.nest.row h.kids (by decide)) (fun i d=>Yj (h.nest.rk i d) h.kids (by decide)) c,h.node.kept b (Yj h.node h.kids (by decide)),by simpa using hown,h.vnb,h.frame.andThen b (fun j hj=>Or.inl (h.kids.lt j hj).1),h.vat,h.old,h.new,fun j hj y hy=> ?_⟩
 rcases hat with e|e
 ·exact h.ki j hj y (e▸hy)
 ·rw[e] at hy
  simp at hy
  intro f
  have:=((h.nest.ri j (by simpa using hj)).lt y f).2
  omega
theorem Mid.kid {base:Nat} {w wr w5:World} {nb:Nat} {v0 v kv kv':Value} {ns acc:List VN} {ks:List Int} {cs:List Value} {KV0 IV0 KV IV:Nat->Value} {o:Obj} {q:Int} (h:Mid base w wr nb v0 v kv ns acc ks cs KV0 IV0 KV IV)
  (hown:w5.ownsRow w.heap.size 2 1 kv' (ks.length+1) (ks.map (.int .i64)++ [.int .i64 q])) (hg:(wr.alloc o).grownBy w5 kv.ownBlock) (hat:kv'.ownBlock=kv.ownBlock\/kv'.ownBlock=some (wr.heap.size+1)):
  Mid base w (w5.setCell ⟨nb,4,none⟩ kv') nb v0 v kv' ns acc (ks++ [q]) (cs.set 4 kv') KV0 IV0 KV IV:=(h.kid1 hown hg hat).put 4 kv'
theorem Mid.kid0 {base:Nat} {w wr:World} {nb:Nat} {v0 v kv:Value} {ns acc:List VN} {ks:List Int} {cs:List Value} {KV0 IV0 KV IV:Nat->Value} (h:Mid base w wr nb v0 v kv ns acc ks cs KV0 IV0 KV IV):
  Mid base w (wr.alloc (.cells #[] 2)) nb v0 v (.slice (some ⟨wr.heap.size,0,none⟩) 0 0) ns acc [] cs KV0 IV0 KV IV:=by
 have c:=World.grownBy_alloc wr (.cells #[] 2) none
 have b:∀x:Option Nat,x=none\/x≠none:=fun x=>by cases x<;>simp
 have d:=h.frame.size
 refine ⟨h.hbase,h.v0b,h.nest.kept c (b _) (fun _ _=>b _) (fun _ _=>b _),h.node.kept c (b _),World.ownsRow_lit wr #[] 0 d (by simp[maxLen]) rfl,h.vnb,h.frame.andThen c (fun j hj=>by cases hj),h.vat,h.old,h.new,fun j hj y hy e=> ?_⟩
 have:=((h.nest.ri j (by simpa using hj)).lt y e).2
 simp[Value.ownBlock] at hy
 omega
theorem Mid.grow {base:Nat} {w wr w5:World} {nb:Nat} {v0 v kv:Value} {ns acc:List VN} {ks:List Int} {cs:List Value} {KV0 IV0 KV IV:Nat->Value} (h:Mid base w wr nb v0 v kv ns acc ks cs KV0 IV0 KV IV) (hg:wr.grownBy w5 none):
  Mid base w w5 nb v0 v kv ns acc ks cs KV0 IV0 KV IV:=by
 have b:∀x:Option Nat,x=none\/x≠none:=fun x=>by cases x<;>simp
 exact ⟨h.hbase,h.v0b,h.nest.kept hg (b _) (fun _ _=>b _) (fun _ _=>b _),h.node.kept hg (b _),h.kids.kept hg (b _),h.vnb,h.frame.andThen hg (fun j hj=>by cases hj),h.vat,h.old,h.new,h.ki⟩
theorem Mid.fin {base:Nat} {w wr w6:World} {nb:Nat} {v0 v v' kv c3:Value} {ns acc:List VN} {ks:List Int} {cs:List Value} {KV0 IV0 KV IV:Nat->Value} {o:Obj} {x:VN} (h:Mid base w wr nb v0 v kv ns acc ks cs KV0 IV0 KV IV) (hx:x.kids=ks)
  (hk:wr.ownsRow w.heap.size 9 1 c3 x.keys.length (x.keys.map .string)) (fk:∀j,j<ns.length+acc.length->∀y,c3.ownBlock=some y->(KV j).ownBlock≠some y)
  (hown:w6.ownsRow base 75 5 v' ((ns++acc).length+1) (Kd (ns++acc) KV IV++ [.int .i64 x.kind, .int .i64 x.n, .string x.s,c3,kv])) (hg:(wr.alloc o).grownBy w6 v.ownBlock) (hat:v'.ownBlock=v.ownBlock\/v'.ownBlock=some (wr.heap.size+1)):
  Laid base w w6 v0 v' ns (acc++ [x]) KV0 IV0 (upd KV (ns++acc).length c3) (upd IV (ns++acc).length kv):=by
 subst hx
 have b:wr.grownBy w6 v.ownBlock:=(World.grownBy_alloc wr o _).trans hg
 have c:=h.frame.size
 have d:=Nest.snoc (x:=x) h.nest (Qj hk h.hbase) (Qj h.kids h.hbase) (fun i hi=>fk i (by simpa using hi)) (fun i hi=>h.ki i (by simpa using hi)) hown b
 refine ⟨by rw[<-List.append_assoc];exact d,h.frame.andThen b (fun j hj=> ?_), ?_,fun j hj=> ?_,fun j hj1 hj2=> ?_⟩
 ·rcases h.vat with e|⟨g,e,hg⟩
  ·exact Or.inr (e▸hj)
  ·rw[e] at hj;simp at hj;exact Or.inl (by omega)
 ·rcases hat with e|e
  ·rw[e];exact h.vat
  ·exact Or.inr ⟨_,e,by omega⟩
 ·rw[Z2 _ _ (by simp;omega),Z2 _ _ (by simp;omega)]
  exact h.old j hj
 ·by_cases hlt:j<ns.length+acc.length
  ·rw[Z2 _ _ (by simp;omega),Z2 _ _ (by simp;omega)]
   exact h.new j hj1 hlt
  ·obtain rfl:j=(ns++acc).length:=by simp at hj2|-;omega
   rw[Vc,Vc]
   exact ⟨fun y hy=>(hk.lt y hy).1,fun y hy=>(h.kids.lt y hy).1⟩
theorem Mid.keepL {base:Nat} {w wr:World} {nb:Nat} {v0 v kv:Value} {ns acc:List VN} {ks:List Int} {cs:List Value} {KV0 IV0 KV IV:Nat->Value} {B:Nat} (h:Mid base w wr nb v0 v kv ns acc ks cs KV0 IV0 KV IV) (hB:B<=base):Below B w wr:=
 (Below.refl _ _).grown h.frame (by have:=h.hbase;omega) (fun k hk=>by have:=h.v0b k hk;omega)
theorem Laid.refl {base:Nat} {w:World} {v:Value} {ns:List VN} {KV IV:Nat->Value} (h:Nest base w v ns KV IV):Laid base w w v v ns [] KV IV KV IV:=
 ⟨by simpa using h,⟨rfl,rfl,rfl,Nat.le_refl _,fun _ _ _=>rfl⟩,Or.inl rfl,fun _ _=>⟨rfl,rfl⟩,fun j h1 h2=>by simp at h2;omega⟩
theorem Laid.trans {base:Nat} {w w1 w2:World} {v v1 v2:Value} {ns add add':List VN} {KV IV KV1 IV1 KV2 IV2:Nat->Value} (h:Laid base w w1 v v1 ns add KV IV KV1 IV1) (k:Laid base w1 w2 v1 v2 (ns++add) add' KV1 IV1 KV2 IV2):Laid base w w2 v v2 ns (add++add') KV IV KV2 IV2:=by
 obtain ⟨B,b,c,l,p⟩:=h
 obtain ⟨q,s,t,d,z⟩:=k
 have f:=b.size
 refine ⟨by rw[<-List.append_assoc];exact q,b.andThen s (fun j hj=> ?_), ?_,fun j hj=> ?_,fun j hj1 hj2=> ?_⟩
 ·rcases c with e|⟨g,e,hg⟩
  ·exact Or.inr (e▸hj)
  ·rw[e] at hj;simp at hj;exact Or.inl (by omega)
 ·rcases t with e|⟨g,e,hg⟩
  ·rw[e];exact c
  ·exact Or.inr ⟨g,e,by omega⟩
 ·have e:=d j (by simp;omega)
  have o:=l j hj
  exact ⟨e.1.trans o.1,e.2.trans o.2⟩
 ·by_cases hlt:j<ns.length+add.length
  ·have e:=d j (by simp;omega)
   rw[e.1,e.2]
   exact p j hj1 hlt
  ·have e:=z j (by simp;omega) (by simp at hj2|-;omega)
   exact ⟨fun y hy=>Nat.le_trans f (e.1 y hy),fun y hy=>Nat.le_trans f (e.2 y hy)⟩
theorem Laid.below {base B:Nat} {w w1:World} {v v1:Value} {ns add:List VN} {KV IV KV1 IV1:Nat->Value} (h:Laid base w w1 v v1 ns add KV IV KV1 IV1) (hv:∀y,v.ownBlock=some y->base<=y) (hB:B<=base) (hb:base<=w.heap.size):Below B w w1:=
 (Below.refl _ _).grown h.2.1 (by omega) (fun k hk=>by have:=hv k hk;omega)


theorem Xay (w:World):Calls Tryz.prog 251 #[.agg #[]] w fun e w'=>e= .returned (.slice none 0 0)/\Below w.heap.size w w':=by
 go_enter Tryz.func251,Tryz.ntmps251
 go_wp2_with fail
 go_ret
 exact ⟨rfl,(Below.refl _ _).alloc (Nat.le_refl _) _⟩
theorem Xc8 (n:Int) (w:World):Calls Tryz.prog 241 #[.agg #[.int .i64 n]] w fun e w'=>e= .returned (.slice none 0 0)/\Below w.heap.size w w':=by
 go_enter Tryz.func241,Tryz.ntmps241
 go_wp2_with fail
 go_ret
 exact ⟨rfl,(Below.refl _ _).alloc (Nat.le_refl _) _⟩
theorem Xc9 (n:Int) (w:World):Calls Tryz.prog 243 #[.agg #[.int .i64 n]] w fun e w'=>e= .returned (.slice none 0 0)/\Below w.heap.size w w':=by
 go_enter Tryz.func243,Tryz.ntmps243
 go_wp2_with fail
 go_ret
 exact ⟨rfl,(Below.refl _ _).alloc (Nat.le_refl _) _⟩
theorem Xda (s:ByteArray) (w:World):Calls Tryz.prog 245 #[.agg #[.string s]] w fun e w'=>e= .returned (.slice none 0 0)/\Below w.heap.size w w':=by
 go_enter Tryz.func245,Tryz.ntmps245
 go_wp2_with fail
 go_ret
 exact ⟨rfl,(Below.refl _ _).alloc (Nat.le_refl _) _⟩
theorem Ka (a:Option Addr) (n c:Nat) (w:World):Calls Tryz.prog 249 #[.agg #[.slice a n c]] w fun e w'=>e= .returned (.slice a n c)/\Below w.heap.size w w':=by
 go_enter Tryz.func249,Tryz.ntmps249
 go_wp2_with fail
 go_ret
 exact ⟨rfl,(Below.refl _ _).alloc (Nat.le_refl _) _⟩
theorem Ul (a:Option Addr) (n c:Nat) (a':Option Addr) (n' c':Nat) (w:World):Calls Tryz.prog 247 #[.agg #[.slice a n c, .slice a' n' c']] w fun e w'=>e= .returned (.slice a' n' c')/\Below w.heap.size w w':=by
 go_enter Tryz.func247,Tryz.ntmps247
 go_wp2_with fail
 go_ret
 exact ⟨rfl,(Below.refl _ _).alloc (Nat.le_refl _) _⟩
theorem Xbg (x:Value) (w:World):(Instr.typeAssert (.iface 160 x) 52 113 true).run Tryz.prog w= .ok (.tuple #[.agg #[.int .i64 0], .bool false]) w:=by kernel_rfl
theorem Wu (x:Value) (w:World):(Instr.typeAssert (.iface 160 x) 52 114 true).run Tryz.prog w= .ok (.tuple #[.agg #[.int .i64 0], .bool false]) w:=by kernel_rfl
theorem Xbh (x:Value) (w:World):(Instr.typeAssert (.iface 160 x) 52 116 true).run Tryz.prog w= .ok (.tuple #[.agg #[.string ByteArray.empty], .bool false]) w:=by kernel_rfl
theorem Xgi (x:Value) (w:World):(Instr.typeAssert (.iface 160 x) 52 118 true).run Tryz.prog w= .ok (.tuple #[.agg #[.slice none 0 0, .slice none 0 0], .bool false]) w:=by kernel_rfl
theorem Xbi (x:Value) (w:World):(Instr.typeAssert (.iface 113 x) 52 113 true).run Tryz.prog w= .ok (.tuple #[x, .bool true]) w:=by kernel_rfl
theorem Xcg (x:Value) (w:World):(Instr.typeAssert (.iface 114 x) 52 113 true).run Tryz.prog w= .ok (.tuple #[.agg #[.int .i64 0], .bool false]) w:=by kernel_rfl
theorem V9 (x:Value) (w:World):(Instr.typeAssert (.iface 114 x) 52 114 true).run Tryz.prog w= .ok (.tuple #[x, .bool true]) w:=by kernel_rfl
theorem Xbj (x:Value) (w:World):(Instr.typeAssert (.iface 116 x) 52 113 true).run Tryz.prog w= .ok (.tuple #[.agg #[.int .i64 0], .bool false]) w:=by kernel_rfl
theorem Wv (x:Value) (w:World):(Instr.typeAssert (.iface 116 x) 52 114 true).run Tryz.prog w= .ok (.tuple #[.agg #[.int .i64 0], .bool false]) w:=by kernel_rfl
theorem Um (x:Value) (w:World):(Instr.typeAssert (.iface 116 x) 52 116 true).run Tryz.prog w= .ok (.tuple #[x, .bool true]) w:=by kernel_rfl
theorem Xbk (x:Value) (w:World):(Instr.typeAssert (.iface 158 x) 52 113 true).run Tryz.prog w= .ok (.tuple #[.agg #[.int .i64 0], .bool false]) w:=by kernel_rfl
theorem Vk (x:Value) (w:World):(Instr.typeAssert (.iface 158 x) 52 114 true).run Tryz.prog w= .ok (.tuple #[.agg #[.int .i64 0], .bool false]) w:=by kernel_rfl
theorem Xbl (x:Value) (w:World):(Instr.typeAssert (.iface 158 x) 52 116 true).run Tryz.prog w= .ok (.tuple #[.agg #[.string ByteArray.empty], .bool false]) w:=by kernel_rfl
theorem Xgj (x:Value) (w:World):(Instr.typeAssert (.iface 158 x) 52 118 true).run Tryz.prog w= .ok (.tuple #[.agg #[.slice none 0 0, .slice none 0 0], .bool false]) w:=by kernel_rfl
theorem Xch (x:Value) (w:World):(Instr.typeAssert (.iface 118 x) 52 113 true).run Tryz.prog w= .ok (.tuple #[.agg #[.int .i64 0], .bool false]) w:=by kernel_rfl
theorem Un (x:Value) (w:World):(Instr.typeAssert (.iface 118 x) 52 114 true).run Tryz.prog w= .ok (.tuple #[.agg #[.int .i64 0], .bool false]) w:=by kernel_rfl
theorem Ww (x:Value) (w:World):(Instr.typeAssert (.iface 118 x) 52 116 true).run Tryz.prog w= .ok (.tuple #[.agg #[.string ByteArray.empty], .bool false]) w:=by kernel_rfl
theorem Xdb (x:Value) (w:World):(Instr.typeAssert (.iface 118 x) 52 118 true).run Tryz.prog w= .ok (.tuple #[x, .bool true]) w:=by kernel_rfl
theorem Xy7 (n:Int) (w:World):(Instr.field 113 (.agg #[.int .i64 n]) 0).run Tryz.prog w= .ok (.int .i64 n) w:=by kernel_rfl
theorem Xf0 (n:Int) (w:World):(Instr.field 114 (.agg #[.int .i64 n]) 0).run Tryz.prog w= .ok (.int .i64 n) w:=by kernel_rfl
theorem Xms (s:ByteArray) (w:World):(Instr.field 116 (.agg #[.string s]) 0).run Tryz.prog w= .ok (.string s) w:=by kernel_rfl
theorem X2i (a:Option Addr) (n c:Nat) (y:Value) (w:World):(Instr.field 118 (.agg #[.slice a n c,y]) 0).run Tryz.prog w= .ok (.slice a n c) w:=by kernel_rfl
theorem Below.next {w w1 w2:World} (h:Below w.heap.size w w1) (k:Below w1.heap.size w1 w2):Below w.heap.size w w2:=h.trans (k.mono h.size)


theorem Xxn {vs:List VN} {k:Nat} (h:k<vs.length):vs.take (k+1)=vs.take k++ [Xb vs k]:=by
 rw[List.take_add_one,List.getElem?_eq_getElem h]
 simp[Xb,h]
def Gi (l:List Int) (d:Int) (k:Nat):List Int:=(l.take k).map (· +d)
theorem Xuk (l:List Int) (d:Int):Gi l d 0= []:=by simp[Gi]
theorem Xxo {l:List Int} {d:Int} {k:Nat} (h:k<=l.length):(Gi l d k).length=k:=by unfold Gi;rw[List.length_map,List.length_take];omega
theorem Xul {l:List Int} {d:Int} {k:Nat} (h:k<l.length):Gi l d (k+1)=Gi l d k++ [Xj l k+d]:=by
 unfold Gi
 rw[List.take_add_one,List.getElem?_eq_getElem h,List.map_append,Y8 h]
 simp
theorem Xxp (l:List Int) (d:Int):Gi l d l.length=l.map (· +d):=by simp[Gi]
def X1a (x:VN):Prop:=x.keys.length<=100000/\x.kids.length<=100000/\∀j,j<x.kids.length->-1000000<=Xj x.kids j/\Xj x.kids j<=1000000
theorem Xoy (w:World) (b:Nat) (c0 c1 c2 c3 c4:Value) (hb:w.heap.size=b):∀j u,[c0,c1,c2,c3,c4][j]? =some u->(w.alloc (.cells #[c0,c1,c2,c3,c4] 75)).cell? ((⟨b,0,none⟩:Addr).add j)=some u:=by
 subst hb;exact World.news_of_block (cs:= #[c0,c1,c2,c3,c4]) (heap_alloc_new w _)
theorem Xlc (B base:Nat) (v u:Value) (ns vs:List VN) (KV IV:Nat->Value) (w:World) (h:Nest base w v ns KV IV) (hu:NodesAt B w u vs) (hB:B<=base) (hb:base<=w.heap.size) (hn:ns.length+vs.length<=100000) (hnear:∀i,i<vs.length->X1a (Xb vs i)):
  Calls Tryz.prog 83 #[v,u] w fun e w'=>∃v' KV' IV',e= .returned v'/\Laid base w w' v v' ns (vs.map (X5 (ns.length:Int))) KV IV KV' IV':=by
 have H:=Xa h
 have b1:=Xa hnear
 have b2:=Xa (fun y hy=>(h.row.lt y hy).1)
 obtain ⟨av,cv,rfl⟩:=Xg h.row
 obtain ⟨c8,au,cu,rfl,b3⟩:=hu
 have b4:=Xa b3
 obtain ⟨i0,b5,b6,b7,b8⟩:=info_parts Kj
 obtain ⟨i1,b9,ca,cb,cc⟩:=info_parts Wh
 obtain ⟨i2,cd,ce,cf,cg⟩:=info_parts Wg
 obtain ⟨D,hD⟩:∃D,ns.length=D:=⟨_,rfl⟩
 have HD:=Xa hD
 rw[hD] at hn|-
 go_enter Tryz.func83,Tryz.ntmps83
 go_wp2_with fail
 go_loopw [0,6] (fun o i wr=>∃(c:Nat) (KV' IV':Nat->Value),c<=vs.length/\i= .int .i64 c/\Laid base w wr (.slice av D cv) o ns ((vs.take c).map (X5 (D:Int))) KV IV KV' IV') (fun _ i _=>vs.length-(intOf i).toNat)
 case atStart=>exact ⟨0,KV,IV,Nat.zero_le _,rfl,by have:=Laid.refl H.out;rw[HD.out] at this;simpa using this⟩
 case round=>
  obtain ⟨c,KV',IV',hc,rfl,g⟩:=hrel
  have V:=Xa g
  have bi:Below B w wr:=g.below (by have:=b2.out;rw[HD.out] at this;exact this) hB hb
  have zs:=bi.size
  obtain ⟨ao,co,eo⟩:=Xg g.1.row
  obtain ⟨M,hM⟩:∃M,(ns++(vs.take c).map (X5 (D:Int))).length=M:=⟨_,rfl⟩
  have bj:=Xa hM
  have ch:Hid (M=D+c):=by rw[Hid];rw[<-hM,List.length_append,HD.out,List.length_map,List.length_take];omega
  rw[hM] at eo
  subst eo
  by_cases hlt:c<vs.length
  ·have da:M+1<=100000:=by have:=ch.out;omega
   obtain ⟨b0,o0,rfl,cj,bc⟩:=b4.out (by omega)
   obtain ⟨ka,ki,cl⟩:=bc c hlt
   have l:=cl.below bi cj
   have c0:=l.c0
   have c1:=l.c1
   have c2:=l.c2
   have c3:=l.c3
   have c4:=l.c4
   obtain ⟨_,_,aK,cK,eK,F⟩:=l.inn.keys
   obtain ⟨_,db,aI,cI,eI,cm⟩:=l.inn.kids
   subst eK eI
   have cn:=Xa F
   have cp:=Xa cm
   have G:=b1.out c hlt
   have cq:=Xa G.2.2
   have cr:=G.1
   have p:=G.2.1
   obtain ⟨f,bl⟩:∃f,(Xb vs c).keys.length=f:=⟨_,rfl⟩
   obtain ⟨R,bm⟩:∃R,(Xb vs c).kids.length=R:=⟨_,rfl⟩
   have bd:=Xa bl
   have C:=Xa bm
   rw[bl] at c3 cr
   rw[bm] at c4 p
   obtain ⟨J,X⟩:∃J,wr.alloc (.cells #[.int .i64 (Xb vs c).kind, .int .i64 (Xb vs c).n, .string (Xb vs c).s, .slice aK f cK, .slice aI R cI] 75)=J:=⟨_,rfl⟩
   have be:=Mid.start (c0:= .int .i64 (Xb vs c).kind) (c1:= .int .i64 (Xb vs c).n) (c2:= .string (Xb vs c).s) (c3:= .slice aK f cK) (c4:= .slice aI R cI) V.out.1 (by omega) (Below.refl _ wr) (Below.refl _ _)
   rw[X] at be
   have bf:=Xa be
   have z1:J.heap.size=wr.heap.size+1:=by rw[<-X];simp
   have bn:Hid (Below wr.heap.size wr J):=by rw[Hid,<-X];exact (Below.refl _ _).alloc (Nat.le_refl _) _
   have ba:Hid (0<f->∃ad,aK=some ad/\∀j u,((Xb vs c).keys.map Value.string)[j]? =some u->(J.alloc (.cells #[] 9)).cell? (ad.add j)=some u):=by
    intro hp
    obtain ⟨bk,ok,rfl,bo,bg⟩:=cn.out (by rw[bd.out];exact hp)
    refine ⟨_,rfl,fun j u hj=> ?_⟩
    have bp:j<(Xb vs c).keys.length:=by have:=(List.getElem?_eq_some_iff.1 hj).1;simpa using this
    rw[show (⟨bk,ok,none⟩:Addr).add j=⟨bk,ok+j,none⟩ by simp[Addr.add],Xc ((Below.refl _ J).alloc (Nat.le_refl _) _) (by omega),Xc bn.out (by omega),bg j bp]
    simp[bp,Xf] at hj|-
    exact hj
   have bb:Hid ((J.alloc (.cells #[] 9)).ownsRow wr.heap.size 9 1 (.slice (some ⟨wr.heap.size+1,0,none⟩) 0 0) 0 []):=by
    have:=World.ownsRow_lit (base:=wr.heap.size) (e:=9) (size:=1) J #[] 0 (by omega) (by simp[maxLen]) rfl
    rw[z1] at this
    exact this
   have y3:J.cell? ⟨wr.heap.size,3,none⟩=some (.slice aK f cK):=bf.out.node.cellAt 3 (by omega)
   go_wp2_with (at_builtin;refine Yd rfl _ _ 72 rfl wr.heap.size 9 i1 (.string ByteArray.empty) 1 16 Tryz.underlying72 b9 ca cb cc rfl (by decide) _ 0 [] rfl bb.out aK f cK ((Xb vs c).keys.map .string) rfl (by simp[bd.out]) ba.out ?c2 ?c3 ?c4 ?c5 ?_)
   case c2=>intro u hu;first|rfl|(obtain ⟨q,_,rfl⟩:=List.mem_map.1 hu;rfl)
   case c3=>unfold maxLen;omega
   case c4=>omega
   case c5=>first|omega|(simp;omega)
   intro vk w5 p cs c9
   (try simp only[Nat.zero_add,List.nil_append] at p)
   have ct:J.grownBy w5 none:=(World.grownBy_alloc J _ none).andThen cs (fun j hj=>Or.inl (by simp[Value.ownBlock] at hj;omega))
   have L:=bf.out.grow ct
   have cw:Hid (∀j,j<(ns++(vs.take c).map (X5 (D:Int))).length+([]:List VN).length->∀y,vk.ownBlock=some y->(KV' j).ownBlock≠some y):=by
    intro j hj y hy e
    have h1:=((V.out.1.rk j (by simpa using hj)).lt y e).2
    have h2:=(p.lt y hy).1
    omega
   have Y:=p.kept (L.node.stored 3 vk).2 (Yj p L.node (by decide))
   obtain ⟨ak,ck,cx⟩:=Xg p
   subst cx
   have bq:=(L.put 3 (.slice ak f ck)).kid0
   have br:=Y.alloc (.cells #[] 2)
   have x3:w5.cell? ⟨wr.heap.size,3,none⟩=some (.slice aK f cK):=L.node.cellAt 3 (by omega)
   have f3:w5.frozen? ⟨wr.heap.size,3,none⟩=false:=L.node.frozenAt 3
   have e5:(w5.setCell ⟨wr.heap.size,3,none⟩ (.slice ak f ck)).heap.size=w5.heap.size:=by simp
   rw[e5] at bq
   have cy:=Xa bq
   have bs:=Xa br
   go_wp2_with fail
   generalize ((w5.setCell ⟨wr.heap.size,3,none⟩ (.slice ak f ck)).alloc (.cells #[] 2))=W7 at *
   clear x3 f3 ba bb bf bn z1 X be
   obtain ⟨d,rfl⟩:∃d,d=wr:=⟨_,rfl⟩
   go_loopw [8,9] (fun it i wr=>∃k:Nat,k<=R/\i= .int .i64 k/\Mid base d wr d.heap.size (.slice ao M co) (.slice ao M co) it (ns++(vs.take c).map (X5 (D:Int))) [] (Gi (Xb vs c).kids (D:Int) k) [.int .i64 (Xb vs c).kind, .int .i64 (Xb vs c).n, .string (Xb vs c).s, .slice ak f ck, .slice aI R cI] KV' IV' KV' IV'/\wr.ownsRow d.heap.size 9 1 (.slice ak f ck) f ((Xb vs c).keys.map .string)) (fun _ i _=>R-(intOf i).toNat)
   case atStart=>exact ⟨0,Nat.zero_le _,rfl,by rw[Xuk];exact cy.out,bs.out⟩
   case round=>
    obtain ⟨k,hk,rfl,hm,Y⟩:=hrel
    have HM:=Xa hm
    have Z:=Xa Y
    have dc:=hm.frame.size
    have t:(Gi (Xb vs c).kids (D:Int) k).length=k:=Xxo (by rw[C.out];exact hk)
    obtain ⟨S,T,ei⟩:=Xg hm.kids
    rw[t] at ei
    subst ei
    have bt:=Xa t
    have y4:wr.cell? ⟨d.heap.size,4,none⟩=some (.slice aI R cI):=HM.out.node.cellAt 4 (by omega)
    clear hm Y t
    by_cases F:k<R
    ·obtain ⟨bk,ok,rfl,bo,bg⟩:=cp.out (by rw[C.out];omega)
     obtain ⟨Q,hQ⟩:∃Q,Xj (Xb vs c).kids k=Q:=⟨_,rfl⟩
     have dd:wr.cell? ⟨bk,ok+k,none⟩=some (.int .i64 Q):=by rw[<-hQ];exact (Xc (HM.out.keepL hB) bo).trans (bg k (by rw[C.out];exact F))
     have bu:=cq.out k (by rw[C.out];exact F)
     rw[hQ] at bu
     obtain ⟨de,df⟩:=bu
     have cz:Hid (Gi (Xb vs c).kids (D:Int) (k+1)=Gi (Xb vs c).kids (D:Int) k++ [Q+(D:Int)]):=by rw[Hid,Xul (by rw[C.out];exact F),hQ]
     have bv:=Xa HM.out.kids
     go_wp2_with (at_builtin;refine wpList_append_own_at _ rfl _ _ 73 rfl d.heap.size 2 i2 (.int .i64 0) 1 8 Tryz.underlying73 cd ce cf cg rfl (by decide) _ _ _ rfl (bv.out.alloc _) ⟨wr.heap.size,0,none⟩ 1 1 [.int .i64 (Q+(D:Int))] rfl rfl ?c1 ?c2 ?c3 ?c4 ?c5 ?_)
     case c1=>exact cell_one_new _ _ _
     case c2=>first|rfl|(intro u hu;simp at hu;subst hu;rfl)
     case c3=>first|omega|(rw[bt.out];unfold maxLen;omega)
     case c4=>first|omega|(rw[bt.out];omega)
     case c5=>first|omega|(simp;omega)
     intro dg w9 P b _ bh
     have c6:=Xa (HM.out.kid1 P b (by simpa using bh))
     have bw:=Xa (Z.out.kept ((World.grownBy_alloc wr _ _).trans b) (Yj Z.out bv.out (by decide)))
     go_wp2_with fail
     go_roundw
     case rel=>exact ⟨k+1,by omega,by go_num,by rw[cz.out];exact c6.out,bw.out⟩
     case measure=>simp[intOf];omega
    ·obtain rfl:k=R:=by omega
     have z:=Xa (HM.out.put 4 (.slice S k T))
     have f4:wr.frozen? ⟨d.heap.size,4,none⟩=false:=HM.out.node.frozenAt 4
     have bx:=Xa (Z.out.kept (HM.out.node.stored 4 (.slice S k T)).2 (Yj Z.out HM.out.node (by decide)))
     have X0:(wr.setCell ⟨d.heap.size,4,none⟩ (.slice S k T)).cell? ⟨d.heap.size,0,none⟩=some (.int .i64 (Xb vs c).kind):=z.out.node.cellAt 0 (by omega)
     have X1:(wr.setCell ⟨d.heap.size,4,none⟩ (.slice S k T)).cell? ⟨d.heap.size,1,none⟩=some (.int .i64 (Xb vs c).n):=z.out.node.cellAt 1 (by omega)
     have X2:(wr.setCell ⟨d.heap.size,4,none⟩ (.slice S k T)).cell? ⟨d.heap.size,2,none⟩=some (.string (Xb vs c).s):=z.out.node.cellAt 2 (by omega)
     have X3:(wr.setCell ⟨d.heap.size,4,none⟩ (.slice S k T)).cell? ⟨d.heap.size,3,none⟩=some (.slice ak f ck):=z.out.node.cellAt 3 (by omega)
     have X4:(wr.setCell ⟨d.heap.size,4,none⟩ (.slice S k T)).cell? ⟨d.heap.size,4,none⟩=some (.slice S k T):=z.out.node.cellAt 4 (by omega)
     have HN:=Xa (z.out.nest.row.alloc (.cells #[.int .i64 (Xb vs c).kind, .int .i64 (Xb vs c).n, .string (Xb vs c).s, .slice ak f ck, .slice S k T] 75))
     rw[List.append_nil,bj.out] at HN
     go_wp2_with (at_builtin;refine wpList_append_own_at _ rfl _ _ 25 rfl base 75 i0 zeroNode 5 80 Tryz.underlying25 b5 b6 b7 b8 rfl (by decide) _ _ _ rfl HN.out ⟨wr.heap.size,0,none⟩ 1 1 [.int .i64 (Xb vs c).kind, .int .i64 (Xb vs c).n, .string (Xb vs c).s, .slice ak f ck, .slice S k T] rfl rfl ?c1 ?c2 ?c3 ?c4 ?c5 ?_)
     case c1=>exact Xoy _ _ _ _ _ _ _ (by simp)
     case c2=>intro u hu;simp at hu;rcases hu with rfl|rfl|rfl|rfl|rfl<;>rfl
     case c3=>unfold maxLen;omega
     case c4=>omega
     case c5=>simp;omega
     intro v' w6 P b _ bh
     have bz:=Mid.fin (x:=X5 (D:Int) (Xb vs c)) z.out (by show (Xb vs c).kids.map (· +(D:Int))=_;rw[<-C.out,Xxp]) (by show World.ownsRow _ _ _ _ _ (Xb vs c).keys.length _;rw[bd.out];exact bx.out) cw.out (by rw[List.append_nil,bj.out,List.map_take];exact P) b (by simpa using bh)
     have HL:=Xa (V.out.trans bz)
     have c7:Hid ((vs.take (c+1)).map (X5 (D:Int))=(vs.take c).map (X5 (D:Int))++ [X5 (D:Int) (Xb vs c)]):=by rw[Hid,Xxn hlt,List.map_append];rfl
     go_wp2_with fail
     go_roundw
     case rel=>exact ⟨c+1,_,_,by omega,by go_num,by rw[c7.out];exact HL.out⟩
     case measure=>simp[intOf];omega
  ·obtain rfl:c=vs.length:=by omega
   go_wp2_with fail
   go_ret
   exact ⟨_,_,_,rfl,by have:=V.out;rwa [List.take_length] at this⟩


def ValsAt (w:World) (it:Value) (m:Nat) (V:Nat->Value):Prop:=
 ∃a cap,it= .slice a m cap/\(0<m->∃b,a=some ⟨b,0,none⟩/\b<w.heap.size/\∀j,j<m->w.cell? ⟨b,j,none⟩=some (V j))/\∀j,j<m->∃t x,V j= .iface t x
theorem ValsAt.below {w w':World} {it:Value} {m:Nat} {V:Nat->Value} (h:ValsAt w it m V) (hb:Below w.heap.size w w'):ValsAt w' it m V:=by
 obtain ⟨a,d,e,g,l⟩:=h
 refine ⟨a,d,e,fun hp=> ?_,l⟩
 obtain ⟨b,o,c,f⟩:=g hp
 exact ⟨b,o,Nat.lt_of_lt_of_le c hb.size,fun j hj=>(Xc hb c).trans (f j hj)⟩
def Xz1 (w:World) (c:Value) (m:Nat) (V:Nat->Value) (h:Nat->Bool):Prop:=
 ∀w',Below w.heap.size w w'->∀k,k<m->Calls Tryz.prog 202 #[V k,c] w' fun e w''=>e= .returned (.bool (h k))/\Below w'.heap.size w' w''
theorem Xlz (it c:Value) (m:Nat) (V:Nat->Value) (h:Nat->Bool) (w:World) (hv:ValsAt w it m V) (hs:Xz1 w c m V h) (hm:m<=1000000):
  Calls Tryz.prog 182 #[it, .func (.func 202) #[] #[c]] w fun e w'=>(∃r:Int,e= .returned (.int .i64 r)/\(decide (0<=r))=Za h m/\-1<=r/\r<=1000000)/\Below w.heap.size w w':=by
 have D:=Xa hs
 have F:=Xa hv
 obtain ⟨a,G,rfl,_,_⟩:=hv
 clear hs
 go_enter Tryz.func182,Tryz.ntmps182
 go_wp2_with fail
 go_loopw [5,8] (fun _ i wr=>∃k:Nat,k<=m/\i= .int .i64 k/\Hid (Za h k=false)/\Below w.heap.size w wr) (fun _ i _=>m-(intOf i).toNat)
 case atStart=>exact ⟨0,Nat.zero_le _,rfl,rfl,Below.refl _ _⟩
 case round=>
  obtain ⟨k,P,rfl,s,d⟩:=hrel
  by_cases hlt:k<m
  ·obtain ⟨R,y,J,z,B⟩:=F.out
   cases J
   obtain ⟨b,rfl,l,o⟩:=z (by omega)
   obtain ⟨t,x,C⟩:=B k hlt
   have g:=(Xc d l).trans (o k hlt)
   rw[C] at g
   have p:=Xa (D.out wr d k hlt)
   rw[C] at p
   clear z B o
   cases hh:h k
   ·rw[hh] at p
    have q:Hid (Za h (k+1)=false):=by rw[Hid,Za,s.out,hh];rfl
    go_wp2_with fail
    refine p.out.mono ?_
    rintro e L ⟨rfl,f⟩
    have j:=Xa (d.trans (f.mono d.size))
    clear f
    go_wp2_with fail
    go_roundw
    case rel=>exact ⟨k+1,by omega,by go_num,q,j.out⟩
    case measure=>simp[intOf];omega
   ·rw[hh] at p
    have M:=Xa (Xx6 hlt hh)
    go_wp2_with fail
    refine p.out.mono ?_
    rintro e L ⟨rfl,f⟩
    have j:=Xa (d.trans (f.mono d.size))
    clear f
    go_wp2_with fail
    go_ret
    exact ⟨⟨k,rfl,by rw[M.out];simp,by omega,by omega⟩,j.out⟩
  ·obtain rfl:k=m:=by omega
   go_wp2_with fail
   go_ret
   exact ⟨⟨-1,rfl,by rw[s.out];rfl,by omega,by omega⟩,d⟩
theorem Xhc (it c:Value) (m:Nat) (V:Nat->Value) (h:Nat->Bool) (w:World) (hv:ValsAt w it m V) (hs:Xz1 w c m V h) (hm:m<=1000000):
  Calls Tryz.prog 151 #[it, .func (.func 202) #[] #[c]] w fun e w'=>e= .returned (.bool (Za h m))/\Below w.heap.size w w':=by
 have d:=Xa hs
 have f:=Xa hv
 obtain ⟨a,g,rfl,_,_⟩:=hv
 clear hs
 go_enter Tryz.func151,Tryz.ntmps151
 go_wp2_with fail
 refine (Xlz _ c m V h w f.out d.out hm).mono ?_
 rintro e o ⟨⟨r,rfl,b,p,q⟩,j⟩
 have l:=Xa b
 clear b
 go_wp2_with fail
 all_goals
  go_ret
  exact ⟨Xi (by rw[<-l.out];try simp[*]),j⟩
theorem Xqz (it it':Value) (m m':Nat) (V V':Nat->Value) (g:Nat->Nat->Bool) (w:World) (hv:ValsAt w it m V) (hv':ValsAt w it' m' V') (hm:m<=1000) (hm':m'<=1000)
  (hs:∀w1,Below w.heap.size w w1->∀xb i,i<m->w1.cell? ⟨xb,0,none⟩=some (V i)->xb<w1.heap.size->Xz1 w1 (.pointer (some ⟨xb,0,none⟩)) m' V' (g i)):
  Calls Tryz.prog 192 #[it,it'] w fun e w'=>∃r,e= .returned r/\w'.ownsRow w.heap.size 52 1 r (Yt (fun i=>Za (g i) m') m).length ((Yt (fun i=>Za (g i) m') m).map V)/\Below w.heap.size w w':=by
 have HV:=Xa hv
 have Z:=Xa hv'
 have HS:=Xa hs
 obtain ⟨i0,ba,bb,bc,bd⟩:=info_parts Xbb
 obtain ⟨a,bn,rfl,_,_⟩:=hv
 obtain ⟨a',bl,rfl,_,_⟩:=hv'
 clear hs
 go_enter Tryz.func192,Tryz.ntmps192
 go_wp2_with fail
 go_loopw [5,7,10] (fun o _ i wr=>∃(k:Nat),k<=m/\i= .int .i64 k/\wr.ownsRow w.heap.size 52 1 o (Yt (fun i=>Za (g i) m') k).length ((Yt (fun i=>Za (g i) m') k).map V)/\Below w.heap.size w wr) (fun _ _ i _=>m-(intOf i).toNat)
 case atStart=>exact ⟨0,Nat.zero_le _,rfl,World.ownsRow_nil _ _ _ _,Below.refl _ _⟩
 case round=>
  obtain ⟨k,hk,rfl,d,z⟩:=hrel
  have f:=Xa d
  have zs:=z.size
  obtain ⟨ao,co,eo⟩:=Xg d
  have S:=Xa (V4 (fun i=>Za (g i) m') k)
  obtain ⟨F,G⟩:∃F,Yt (fun i=>Za (g i) m') k=F:=⟨_,rfl⟩
  have J:=Xa G
  rw[G] at eo f S
  obtain ⟨N,Y⟩:∃N,F.length=N:=⟨_,rfl⟩
  have HN:=Xa Y
  rw[Y] at eo
  subst eo
  have bo:N<=k:=by rw[<-Y];exact S.out.1
  clear d G Y
  by_cases hlt:k<m
  ·obtain ⟨a2,bm,e2,hc,hi⟩:=HV.out
   cases e2
   obtain ⟨b,rfl,be,T⟩:=hc (by omega)
   obtain ⟨t,x,hx⟩:=hi k hlt
   have L:=(Xc z be).trans (T k hlt)
   rw[hx] at L
   have HX:=Xa hx
   clear hc hi T hx
   obtain ⟨s,c⟩:∃s,wr.alloc (.cells #[.iface t x] 52)=s:=⟨_,rfl⟩
   have M:s.cell? ⟨wr.heap.size,0,none⟩=some (.iface t x):=by rw[<-c];simp
   have bf:s.heap.size=wr.heap.size+1:=by rw[<-c];simp
   have B:Hid (Below w.heap.size w s):=by rw[Hid,<-c];exact z.alloc zs _
   have bg:Hid (s.ownsRow w.heap.size 52 1 (.slice ao N co) F.length (F.map V)):=by rw[Hid,<-c];exact f.out.alloc _
   have bh:=Xa c
   have bi:=Xa (HS.out s B.out wr.heap.size k hlt (by rw[HX.out];exact M) (by omega))
   have X:wr.heap.size<s.heap.size:=by omega
   have bj:=Xa M
   clear c M bf
   have HG:Hid (∃q,Za (g k) m'=q):=⟨_,rfl⟩
   go_wp2_with fail
   rw[bh.out]
   refine (Xhc _ _ m' V' (g k) s (Z.out.below B.out) bi.out (by omega)).mono ?_
   rintro e w2 ⟨rfl,j⟩
   have C:=Xa (B.out.trans (j.mono B.out.size))
   have P:=Xa (Vd bg.out ((From.refl w.heap.size s).below j))
   have bp:=(Xc j X).trans bj.out
   have z2:=j.size
   clear j
   cases hq:Za (g k) m'
   ·have R:Hid (Yt (fun i=>Za (g i) m') (k+1)=F++ [k]):=by rw[Hid,Yt];simp only[hq];rw[J.out];rfl
    go_wp2_with (at_builtin;refine wpList_append_own_at _ rfl _ _ 58 rfl w.heap.size 52 i0 .nilIface 1 16 Tryz.underlying58 ba bb bc bd rfl (by decide) _ _ _ rfl (P.out.alloc _) ⟨w2.heap.size,0,none⟩ 1 1 [.iface t x] rfl rfl ?c1 ?c2 ?c3 ?c4 ?c5 ?_)
    case c1=>exact cell_one_new _ _ _
    case c2=>intro u hu;simp at hu;subst hu;rfl
    case c3=>have:=HN.out;unfold maxLen;omega
    case c4=>have:=HN.out;omega
    case c5=>simp;omega
    intro v' w5 D l _ _
    have p:Hid (w5.ownsRow w.heap.size 52 1 v' (Yt (fun i=>Za (g i) m') (k+1)).length ((Yt (fun i=>Za (g i) m') (k+1)).map V)):=by
     rw[Hid,R.out,List.map_append,List.length_append]
     simp only[List.map_cons,List.map_nil,List.length_singleton]
     rw[HX.out]
     exact D
    have bk:Hid (Below w.heap.size w w5):=(C.out.alloc C.out.size _).grown l (by have:=C.out.size;simp;omega) (fun y hy=>(P.out.lt y hy).1)
    clear D l
    go_wp2_with fail
    go_roundw
    case rel=>exact ⟨k+1,by omega,by go_num,p.out,bk.out⟩
    case measure=>simp[intOf];omega
   ·have R:Hid (Yt (fun i=>Za (g i) m') (k+1)=F):=by rw[Hid,Yt];simp only[hq];rw[if_pos trivial];exact J.out
    have p:Hid (w2.ownsRow w.heap.size 52 1 (.slice ao N co) (Yt (fun i=>Za (g i) m') (k+1)).length ((Yt (fun i=>Za (g i) m') (k+1)).map V)):=by rw[Hid,R.out];exact P.out
    go_wp2_with fail
    go_roundw
    case rel=>exact ⟨k+1,by omega,by go_num,p.out,C.out⟩
    case measure=>simp[intOf];omega
  ·obtain rfl:k=m:=by omega
   have p:Hid (wr.ownsRow w.heap.size 52 1 (.slice ao N co) (Yt (fun i=>Za (g i) m') k).length ((Yt (fun i=>Za (g i) m') k).map V)):=by rw[Hid,J.out];exact f.out
   go_wp2_with fail
   go_ret
   exact ⟨_,rfl,p.out,z⟩
end Go.Proofs.YtdjddneidbddpaaGreatDoor
