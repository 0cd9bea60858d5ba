import Derived.Test.YtdjddneidbddpaaGreatDoorIMinA
import Derived.Test.YtdjddneidbddpaaGreatDoorByP
import Derived.Test.YtdjddneidbddpaaGreatDoorEq
namespace Go.Proofs.YtdjddneidbddpaaGreatDoor
set_option linter.unusedSectionVars false
set_option maxRecDepth 100000
set_option maxHeartbeats 6400000
open Go.RowKit
set_option linter.unusedSimpArgs false
set_option linter.unusedVariables false
inductive VT where
 |mk (kind n:Int) (s:ByteArray) (keys:List ByteArray) (kids:List VT)
def VT.zero:VT:= .mk 0 0 ByteArray.empty [] []
def Yf (l:List VT) (j:Nat):VT:=l.getD j VT.zero
def Q8 (B:Nat) (w:World) (it:Value) (n:Nat) (P:Nat->Value->Prop):Prop:=
 n<=100000/\∃a cap,it= .slice a n cap/\(0<n->∃b,a=some ⟨b,0,none⟩/\b<B/\∀j,j<n->∃t x,w.cell? ⟨b,j,none⟩=some (.iface t x)/\P j (.iface t x))
def TreeAt (B:Nat) (w:World):Nat->VT->Value->Prop
 |0,_,_=>False
 |f+1, .mk kind n s keys kids,v=>
  (kind=1/\n=0/\s=ByteArray.empty/\keys= []/\kids= []/\v= .iface 160 (.agg #[]))\/
  (kind=2/\s=ByteArray.empty/\keys= []/\kids= []/\v= .iface 113 (.agg #[.int .i64 n]))\/
  (kind=3/\s=ByteArray.empty/\keys= []/\kids= []/\v= .iface 114 (.agg #[.int .i64 n]))\/
  (kind=4/\n=0/\keys= []/\kids= []/\v= .iface 116 (.agg #[.string s]))\/
  (kind=5/\n=0/\s=ByteArray.empty/\keys= []/\∃it,v= .iface 158 (.agg #[it])/\Q8 B w it kids.length (fun j u=>TreeAt B w f (Yf kids j) u))\/
  (kind=6/\n=0/\s=ByteArray.empty/\∃ks it,v= .iface 118 (.agg #[ks,it])/\StrsAt B w ks keys/\Q8 B w it kids.length (fun j u=>TreeAt B w f (Yf kids j) u))
theorem TreeAt.keep {B B':Nat} {w w':World} (hk:∀k,k<B->w'.heap[k]? =w.heap[k]?) (hB:B<=B'):∀{f:Nat} {t:VT} {v:Value},TreeAt B w f t v->TreeAt B' w' f t v:=by
 intro f
 induction f with
 |zero=>intro t v h;exact h.elim
 |succ f ih=>
  intro t v h
  obtain ⟨q,n,s,keys,kids⟩:=t
  have y:∀b j,b<B->w'.cell? ⟨b,j,none⟩=w.cell? ⟨b,j,none⟩:=fun b j hb=>World.cell?_of_block (hk b hb)
  have d:∀c,Q8 B w c kids.length (fun j u=>TreeAt B w f (Yf kids j) u)->Q8 B' w' c kids.length (fun j u=>TreeAt B' w' f (Yf kids j) u):=by
   rintro c ⟨z,a,o,e,C⟩
   refine ⟨z,a,o,e,fun hn=> ?_⟩
   obtain ⟨b,D,g,l⟩:=C hn
   refine ⟨b,D,by omega,fun j hj=> ?_⟩
   obtain ⟨t,x,p,F⟩:=l j hj
   exact ⟨t,x,(y b j g).trans p,ih F⟩
  rcases h with h|h|h|h|⟨h1,g,l,h4,c,e,hi⟩|⟨h1,g,l,ks,c,e,hs,hi⟩
  ·exact Or.inl h
  ·exact Or.inr (Or.inl h)
  ·exact Or.inr (Or.inr (Or.inl h))
  ·exact Or.inr (Or.inr (Or.inr (Or.inl h)))
  ·exact Or.inr (Or.inr (Or.inr (Or.inr (Or.inl ⟨h1,g,l,h4,c,e,d c hi⟩))))
  ·exact Or.inr (Or.inr (Or.inr (Or.inr (Or.inr ⟨h1,g,l,ks,c,e,(hs.keep (lo:=B) (B:=B) (fun k _ hk'=>hk k hk') (Nat.le_refl _)).wide hB,d c hi⟩))))
def Zq (F:VT->Nat->List VN) (sh:Nat):List VT->List VN->List Int->List VN×List Int
 |[],acc,ks=>(acc,ks)
 |k::r,acc,ks=>Zq F sh r (acc++F k (sh+acc.length)) (ks++ [((sh+(acc++F k (sh+acc.length)).length:Nat):Int)-1])
def Yb:Nat->VT->Nat->List VN
 |0,_,_=> []
 |f+1, .mk kind n s keys kids,sh=>(Zq (Yb f) sh kids [] []).1++ [{kind:=kind,n:=n,s:=s,keys:=keys,kids:=(Zq (Yb f) sh kids [] []).2}]
theorem Up (F:VT->Nat->List VN) (sh:Nat):∀(l m:List VT) (acc:List VN) (ks:List Int),Zq F sh (l++m) acc ks=Zq F sh m (Zq F sh l acc ks).1 (Zq F sh l acc ks).2:=by
 intro l
 induction l with
 |nil=>intro m acc ks;rfl
 |cons k r ih=>intro m acc ks;exact ih m _ _
theorem Xlu (F:VT->Nat->List VN) (sh:Nat):∀(l:List VT) (acc:List VN) (ks:List Int),acc.length<=(Zq F sh l acc ks).1.length:=by
 intro l
 induction l with
 |nil=>intro acc ks;exact Nat.le_refl _
 |cons k r ih=>intro acc ks;exact Nat.le_trans (by simp) (ih _ _)
theorem Xlv (F:VT->Nat->List VN) (sh:Nat):∀(l:List VT) (acc:List VN) (ks:List Int),(Zq F sh l acc ks).2.length=ks.length+l.length:=by
 intro l
 induction l with
 |nil=>intro acc ks;rfl
 |cons k r ih=>intro acc ks;rw[Zq,ih];simp;omega
def Xx (f sh:Nat) (l:List VT) (k:Nat):List VN:=(Zq (Yb f) sh (l.take k) [] []).1
def ksT (f sh:Nat) (l:List VT) (k:Nat):List Int:=(Zq (Yb f) sh (l.take k) [] []).2
theorem Qk (f sh:Nat) (l:List VT):Xx f sh l 0= []:=by simp[Xx,Zq]
theorem Q0 (f sh:Nat) (l:List VT):ksT f sh l 0= []:=by simp[ksT,Zq]
theorem Xcr (f sh:Nat) (l:List VT) {k:Nat} (h:k<=l.length):(ksT f sh l k).length=k:=by
 unfold ksT;rw[Xlv];simp;omega
theorem Xdc {l:List VT} {k:Nat} (h:k<l.length):l.take (k+1)=l.take k++ [Yf l k]:=by
 rw[List.take_add_one,List.getElem?_eq_getElem h]
 simp[Yf,h]
theorem Zg (f sh:Nat) {l:List VT} {k:Nat} (h:k<l.length):Xx f sh l (k+1)=Xx f sh l k++Yb f (Yf l k) (sh+(Xx f sh l k).length):=by
 unfold Xx;rw[Xdc h,Up];rfl
theorem Qp (f sh:Nat) {l:List VT} {k:Nat} (h:k<l.length):ksT f sh l (k+1)=ksT f sh l k++ [((sh+(Xx f sh l (k+1)).length:Nat):Int)-1]:=by
 rw[Zg f sh h];unfold ksT Xx;rw[Xdc h,Up];rfl
theorem Xa8 (f sh:Nat) (l:List VT) (k:Nat):(Xx f sh l k).length<=(Xx f sh l l.length).length:=by
 have e:l.take l.length=l.take k++l.drop k:=by simp
 have h:=Up (Yb f) sh (l.take k) (l.drop k) [] []
 unfold Xx
 rw[e,h]
 exact Xlu _ _ _ _ _
theorem Qt (f:Nat) (kind n:Int) (s:ByteArray) (keys:List ByteArray) (kids:List VT) (sh:Nat):
  Yb (f+1) (.mk kind n s keys kids) sh=Xx f sh kids kids.length++ [{kind:=kind,n:=n,s:=s,keys:=keys,kids:=ksT f sh kids kids.length}]:=by
 simp[Yb,Xx,ksT]
theorem Xmu {B:Nat} {w:World} {f:Nat} {t:VT} {v:Value} (h:TreeAt B w f t v) (sh:Nat):0<(Yb f t sh).length:=by
 cases f with
 |zero=>exact h.elim
 |succ f=>obtain ⟨b,n,s,keys,kids⟩:=t;rw[Qt];simp
def Xt (vs:List VN):Nat->Nat->VT
 |0,_=>VT.zero
 |f+1,i=> .mk (Xb vs i).kind (Xb vs i).n (Xb vs i).s (Xb vs i).keys ((Xb vs i).kids.map fun k=>Xt vs f k.toNat)
theorem Xmv (vs:List VN) (f sh:Nat) (ih:∀i s,lay vs f i s=Yb f (Xt vs f i) s):∀(l:List Int) (acc:List VN) (ks:List Int),V8 (lay vs f) sh l acc ks=Zq (Yb f) sh (l.map fun k=>Xt vs f k.toNat) acc ks:=by
 intro l
 induction l with
 |nil=>intro acc ks;rfl
 |cons k r ihr=>intro acc ks;rw[V8,List.map_cons,Zq,ihr,ih]
theorem We (vs:List VN):∀(f i sh:Nat),lay vs f i sh=Yb f (Xt vs f i) sh:=by
 intro f
 induction f with
 |zero=>intro i sh;rfl
 |succ f ih=>
  intro i sh
  rw[lay,Xt,Yb,Xmv vs f sh ih]
theorem G7 {l:List Int} {g:Int->VT} {j:Nat} (h:j<l.length):Yf (l.map g) j=g (Xj l j):=by
 rw[Y8 h];simp[Yf,h]
theorem ValIs.tree {lo B:Nat} {w:World} {vs:List VN} (hlo:lo<=B) (hr:∀k,k<vs.length->Xz (Xb vs k)=true/\Z5 vs k=true) (hk:∀k,k<vs.length->(Xb vs k).kids.length<=k) (h80:vs.length<=80):∀{f i:Nat} {v:Value},i<vs.length->ValIs lo B w vs f i v->TreeAt B w f (Xt vs f i) v:=by
 intro f
 induction f with
 |zero=>intro i v _ h;exact h.elim
 |succ f ih=>
  intro i v g h
  have o:∀c,Uh lo B w c (Xb vs i).kids.length (fun j u=>ValIs lo B w vs f (Xj (Xb vs i).kids j).toNat u)->Q8 B w c ((Xb vs i).kids.map fun k=>Xt vs f k.toNat).length (fun j u=>TreeAt B w f (Yf ((Xb vs i).kids.map fun k=>Xt vs f k.toNat) j) u):=by
   rintro c ⟨a,C,e,F⟩
   refine ⟨by have:=hk i g;simp;omega,a,C,by simpa using e,fun l=> ?_⟩
   rw[List.length_map] at l
   obtain ⟨b,G,P,J,L⟩:=F l
   refine ⟨b,G,J,fun j hj=> ?_⟩
   rw[List.length_map] at hj
   obtain ⟨t,x,D,M⟩:=L j hj
   refine ⟨t,x,D, ?_⟩
   show TreeAt B w f (Yf ((Xb vs i).kids.map fun k=>Xt vs f k.toNat) j) (.iface t x)
   rw[G7 hj]
   have R:=Zw (hr i g).2 hj
   exact ih (by omega) M
  have l:=(hr i g).1
  unfold Xz Yr at l
  have p:∀s:ByteArray,s.toList= []->s=ByteArray.empty:=fun s h=>by
   cases s with|mk d=>rw[ByteArray.toList_eq] at h;simp at h;subst h;rfl
  simp only[Bool.and_eq_true,Bool.not_eq_true',Bool.and_eq_false_iff,decide_eq_false_iff_not,Decidable.not_not,Nat.not_lt,Nat.le_zero,List.length_eq_zero_iff] at l
  obtain ⟨⟨⟨⟨S,q⟩,y⟩,z⟩,_⟩:=l
  rw[Xt]
  rcases h with ⟨k1,e⟩|⟨k2,e⟩|⟨k3,e⟩|⟨k4,e⟩|⟨k5,c,e,g⟩|⟨k6,ks,c,e,hs,g⟩
  ·exact Or.inl ⟨k1,by omega,p _ (by rcases q with h|h;omega;exact h),by rcases y with h|h;omega;exact h,by rcases z with (h|h)|h;omega;omega;rw[h];rfl,e⟩
  ·exact Or.inr (Or.inl ⟨k2,p _ (by rcases q with h|h;omega;exact h),by rcases y with h|h;omega;exact h,by rcases z with (h|h)|h;omega;omega;rw[h];rfl,e⟩)
  ·exact Or.inr (Or.inr (Or.inl ⟨k3,p _ (by rcases q with h|h;omega;exact h),by rcases y with h|h;omega;exact h,by rcases z with (h|h)|h;omega;omega;rw[h];rfl,e⟩))
  ·exact Or.inr (Or.inr (Or.inr (Or.inl ⟨k4,by omega,by rcases y with h|h;omega;exact h,by rcases z with (h|h)|h;omega;omega;rw[h];rfl,e⟩)))
  ·exact Or.inr (Or.inr (Or.inr (Or.inr (Or.inl ⟨k5,by omega,p _ (by rcases q with h|h;omega;exact h),by rcases y with h|h;omega;exact h,c,e,o c g⟩))))
  ·exact Or.inr (Or.inr (Or.inr (Or.inr (Or.inr ⟨k6,by omega,p _ (by rcases q with h|h;omega;exact h),ks,c,e,hs.wide hlo,o c g⟩))))


theorem Kw (w:World):Calls Tryz.prog 250 #[.agg #[]] w fun e w'=>e= .returned (.int .i64 1)/\Below w.heap.size w w':=by
 go_enter Tryz.func250,Tryz.ntmps250
 go_wp2_with fail
 go_ret
 exact ⟨rfl,(Below.refl _ _).alloc (Nat.le_refl _) _⟩
theorem Kx (n:Int) (w:World):Calls Tryz.prog 240 #[.agg #[.int .i64 n]] w fun e w'=>e= .returned (.int .i64 2)/\Below w.heap.size w w':=by
 go_enter Tryz.func240,Tryz.ntmps240
 go_wp2_with fail
 go_ret
 exact ⟨rfl,(Below.refl _ _).alloc (Nat.le_refl _) _⟩
theorem Ky (n:Int) (w:World):Calls Tryz.prog 242 #[.agg #[.int .i64 n]] w fun e w'=>e= .returned (.int .i64 3)/\Below w.heap.size w w':=by
 go_enter Tryz.func242,Tryz.ntmps242
 go_wp2_with fail
 go_ret
 exact ⟨rfl,(Below.refl _ _).alloc (Nat.le_refl _) _⟩
theorem Kz (s:ByteArray) (w:World):Calls Tryz.prog 244 #[.agg #[.string s]] w fun e w'=>e= .returned (.int .i64 4)/\Below w.heap.size w w':=by
 go_enter Tryz.func244,Tryz.ntmps244
 go_wp2_with fail
 go_ret
 exact ⟨rfl,(Below.refl _ _).alloc (Nat.le_refl _) _⟩
theorem V3 (a:Option Addr) (n c:Nat) (w:World):Calls Tryz.prog 248 #[.agg #[.slice a n c]] w fun e w'=>e= .returned (.int .i64 5)/\Below w.heap.size w w':=by
 go_enter Tryz.func248,Tryz.ntmps248
 go_wp2_with fail
 go_ret
 exact ⟨rfl,(Below.refl _ _).alloc (Nat.le_refl _) _⟩
theorem K3 (a:Option Addr) (n c:Nat) (a':Option Addr) (n' c':Nat) (w:World):Calls Tryz.prog 246 #[.agg #[.slice a n c, .slice a' n' c']] w fun e w'=>e= .returned (.int .i64 6)/\Below w.heap.size w w':=by
 go_enter Tryz.func246,Tryz.ntmps246
 go_wp2_with fail
 go_ret
 exact ⟨rfl,(Below.refl _ _).alloc (Nat.le_refl _) _⟩


theorem Xvd (w:World) (c0 c1 c2 c3 c4:Value):∀j u,[c0,c1,c2,c3,c4][j]? =some u->(w.alloc (.cells #[c0,c1,c2,c3,c4] 75)).cell? ((⟨w.heap.size,0,none⟩:Addr).add j)=some u:=
 World.news_of_block (cs:= #[c0,c1,c2,c3,c4]) (heap_alloc_new w _)
theorem Xd3 (w:World) (b:Nat) (c0 c1 c2 c3 c4:Value) (hb:w.heap.size=b):∀j u,[c0,c1,c2,c3,c4][j]? =some u->(w.alloc (.cells #[c0,c1,c2,c3,c4] 75)).cell? ((⟨b,0,none⟩:Addr).add j)=some u:=by
 subst hb;exact Xvd w c0 c1 c2 c3 c4
theorem Xki (base:Nat) (v:Value) (ns:List VN) (KV IV:Nat->Value) (w:World) (h:Nest base w v ns KV IV) (hb:base<=w.heap.size) (hn:ns.length<=100000):
  Calls Tryz.prog 31 #[v, .iface 160 (.agg #[])] w fun e w'=>∃v' KV' IV',e= .returned v'/\Laid base w w' v v' ns [{kind:=1,n:=0,s:=ByteArray.empty,keys:= [],kids:= []}] KV IV KV' IV':=by
 have H:=Xa h
 obtain ⟨R,S,rfl⟩:=Xg h.row
 clear h
 have t:=Xbg
 have B:=Wu
 have z:=Xbh
 have C:=Xgi
 obtain ⟨T,D,F,G,J⟩:=info_parts Kj
 go_enter Tryz.func31,Tryz.ntmps31
 go_wp2_with fail
 refine (Kw _).mono ?_
 rintro e l ⟨rfl,p⟩
 have L:=Xa p
 go_wp2_with fail
 refine (Xay _).mono ?_
 rintro e c ⟨rfl,g⟩
 have d:=Xa (Mid.start H.out hb L.out g)
 have Y:l.heap.size<c.heap.size:=by have:=g.size;simp at this;omega
 clear p g
 go_wp2_with fail
 have Z:c.cell? ⟨l.heap.size,0,none⟩=some (.int .i64 1):=d.out.node.cellAt 0 (by omega)
 have y1:c.cell? ⟨l.heap.size,1,none⟩=some (.int .i64 0):=d.out.node.cellAt 1 (by omega)
 have y2:c.cell? ⟨l.heap.size,2,none⟩=some (.string ⟨#[]⟩):=d.out.node.cellAt 2 (by omega)
 have y3:c.cell? ⟨l.heap.size,3,none⟩=some (.slice none 0 0):=d.out.node.cellAt 3 (by omega)
 have y4:c.cell? ⟨l.heap.size,4,none⟩=some (.slice none 0 0):=d.out.node.cellAt 4 (by omega)
 have V:=Xa (d.out.nest.row.alloc (.cells #[.int .i64 1, .int .i64 0, .string ⟨#[]⟩, .slice none 0 0, .slice none 0 0] 75))
 go_loopw [0,18] (fun o i wr=>o= .slice R ns.length S/\i= .int .i64 0/\wr=c) (fun _ _ _=>0)
 case atStart=>exact ⟨rfl,rfl,rfl⟩
 case round=>
  obtain ⟨rfl,rfl,M⟩:=hrel
  rw[M]
  clear M
  go_wp2_with (at_builtin;refine wpList_append_own_at _ rfl _ _ 25 rfl base 75 T zeroNode 5 80 Tryz.underlying25 D F G J rfl (by decide) _ _ _ rfl V.out ⟨c.heap.size,0,none⟩ 1 1 [.int .i64 1, .int .i64 0, .string ⟨#[]⟩, .slice none 0 0, .slice none 0 0] rfl rfl ?c1 ?c2 ?c3 ?c4 ?c5 ?_)
  case c1=>exact Xvd _ _ _ _ _ _
  case c2=>intro u P;simp at P;rcases P with rfl|rfl|rfl|rfl<;>rfl
  case c3=>simp[maxLen];omega
  case c4=>simp;omega
  case c5=>simp;have:=d.out.frame.size;omega
  intro v' w6 f b _ q
  have X:=Xa (Mid.fin (x:={kind:=1,n:=0,s:=⟨#[]⟩,keys:= [],kids:= []}) d.out rfl (World.ownsRow_nil _ _ _ _) (fun j _ y hy=>by simp[Value.ownBlock] at hy) (by simpa using f) b q)
  clear f b q
  go_wp2_with fail
  go_ret
  exact ⟨_,_,_,rfl,X.out⟩
theorem Xkj (n:Int) (base:Nat) (v:Value) (ns:List VN) (KV IV:Nat->Value) (w:World) (h:Nest base w v ns KV IV) (hb:base<=w.heap.size) (hn:ns.length<=100000):
  Calls Tryz.prog 31 #[v, .iface 113 (.agg #[.int .i64 n])] w fun e w'=>∃v' KV' IV',e= .returned v'/\Laid base w w' v v' ns [{kind:=2,n:=n,s:=ByteArray.empty,keys:= [],kids:= []}] KV IV KV' IV':=by
 have H:=Xa h
 obtain ⟨L,M,rfl⟩:=Xg h.row
 clear h
 have P:=Xbi
 obtain ⟨R,z,B,C,D⟩:=info_parts Kj
 go_enter Tryz.func31,Tryz.ntmps31
 go_wp2_with fail
 refine (Kx _ _).mono ?_
 rintro e b ⟨rfl,q⟩
 have F:=Xa q
 go_wp2_with fail
 refine (Xc8 _ _).mono ?_
 rintro e d ⟨rfl,l⟩
 have p:=Xa (Mid.start H.out hb F.out l)
 have X:b.heap.size<d.heap.size:=by have:=l.size;simp at this;omega
 clear q l
 go_wp2_with fail
 have Y:d.cell? ⟨b.heap.size,0,none⟩=some (.int .i64 2):=p.out.node.cellAt 0 (by omega)
 have Z:d.cell? ⟨b.heap.size,1,none⟩=some (.int .i64 0):=p.out.node.cellAt 1 (by omega)
 have y2:d.cell? ⟨b.heap.size,2,none⟩=some (.string ⟨#[]⟩):=p.out.node.cellAt 2 (by omega)
 have y3:d.cell? ⟨b.heap.size,3,none⟩=some (.slice none 0 0):=p.out.node.cellAt 3 (by omega)
 have y4:d.cell? ⟨b.heap.size,4,none⟩=some (.slice none 0 0):=p.out.node.cellAt 4 (by omega)
 have f1:d.frozen? ⟨b.heap.size,1,none⟩=false:=p.out.node.frozenAt 1
 have c:=Xa ((p.out.put 1 (.int .i64 n)).grow (World.grownBy_alloc _ (.cells #[.int .i64 n] 113) none))
 have x0:((d.setCell ⟨b.heap.size,1,none⟩ (.int .i64 n)).alloc (.cells #[.int .i64 n] 113)).cell? ⟨b.heap.size,0,none⟩=some (.int .i64 2):=c.out.node.cellAt 0 (by omega)
 have x1:((d.setCell ⟨b.heap.size,1,none⟩ (.int .i64 n)).alloc (.cells #[.int .i64 n] 113)).cell? ⟨b.heap.size,1,none⟩=some (.int .i64 n):=c.out.node.cellAt 1 (by omega)
 have x2:((d.setCell ⟨b.heap.size,1,none⟩ (.int .i64 n)).alloc (.cells #[.int .i64 n] 113)).cell? ⟨b.heap.size,2,none⟩=some (.string ⟨#[]⟩):=c.out.node.cellAt 2 (by omega)
 have x3:((d.setCell ⟨b.heap.size,1,none⟩ (.int .i64 n)).alloc (.cells #[.int .i64 n] 113)).cell? ⟨b.heap.size,3,none⟩=some (.slice none 0 0):=c.out.node.cellAt 3 (by omega)
 have x4:((d.setCell ⟨b.heap.size,1,none⟩ (.int .i64 n)).alloc (.cells #[.int .i64 n] 113)).cell? ⟨b.heap.size,4,none⟩=some (.slice none 0 0):=c.out.node.cellAt 4 (by omega)
 have S:=Xa (c.out.nest.row.alloc (.cells #[.int .i64 2, .int .i64 n, .string ⟨#[]⟩, .slice none 0 0, .slice none 0 0] 75))
 have T:=Xa c.out.frame.size
 go_loopw [0,18] (fun o i wr=>o= .slice L ns.length M/\i= .int .i64 0/\wr=d) (fun _ _ _=>0)
 case atStart=>exact ⟨rfl,rfl,rfl⟩
 case round=>
  obtain ⟨rfl,rfl,G⟩:=hrel
  rw[G]
  clear G
  go_wp2_with (at_builtin;refine wpList_append_own_at _ rfl _ _ 25 rfl base 75 R zeroNode 5 80 Tryz.underlying25 z B C D rfl (by decide) _ _ _ rfl S.out ⟨d.heap.size+1,0,none⟩ 1 1 [.int .i64 2, .int .i64 n, .string ⟨#[]⟩, .slice none 0 0, .slice none 0 0] rfl rfl ?c1 ?c2 ?c3 ?c4 ?c5 ?_)
  case c1=>exact Xd3 _ _ _ _ _ _ _ (by simp)
  case c2=>intro u J;simp at J;rcases J with rfl|rfl|rfl|rfl|rfl<;>rfl
  case c3=>simp[maxLen];omega
  case c4=>simp;omega
  case c5=>have:=T.out;simp at this|-;omega
  intro v' w6 g f _ t
  have V:=Xa (Mid.fin (x:={kind:=2,n:=n,s:=⟨#[]⟩,keys:= [],kids:= []}) c.out rfl (World.ownsRow_nil _ _ _ _) (fun j _ y hy=>by simp[Value.ownBlock] at hy) (by simpa using g) f (by simpa using t))
  clear g f t
  go_wp2_with fail
  go_ret
  exact ⟨_,_,_,rfl,V.out⟩
theorem Xmb (n:Int) (base:Nat) (v:Value) (ns:List VN) (KV IV:Nat->Value) (w:World) (h:Nest base w v ns KV IV) (hb:base<=w.heap.size) (hn:ns.length<=100000):
  Calls Tryz.prog 31 #[v, .iface 114 (.agg #[.int .i64 n])] w fun e w'=>∃v' KV' IV',e= .returned v'/\Laid base w w' v v' ns [{kind:=3,n:=n,s:=ByteArray.empty,keys:= [],kids:= []}] KV IV KV' IV':=by
 have H:=Xa h
 obtain ⟨L,M,rfl⟩:=Xg h.row
 clear h
 have P:=Xcg
 have R:=V9
 obtain ⟨S,z,B,C,D⟩:=info_parts Kj
 go_enter Tryz.func31,Tryz.ntmps31
 go_wp2_with fail
 refine (Ky _ _).mono ?_
 rintro e b ⟨rfl,q⟩
 have F:=Xa q
 go_wp2_with fail
 refine (Xc9 _ _).mono ?_
 rintro e d ⟨rfl,l⟩
 have p:=Xa (Mid.start H.out hb F.out l)
 have Y:b.heap.size<d.heap.size:=by have:=l.size;simp at this;omega
 clear q l
 go_wp2_with fail
 have Z:d.cell? ⟨b.heap.size,0,none⟩=some (.int .i64 3):=p.out.node.cellAt 0 (by omega)
 have y1:d.cell? ⟨b.heap.size,1,none⟩=some (.int .i64 0):=p.out.node.cellAt 1 (by omega)
 have y2:d.cell? ⟨b.heap.size,2,none⟩=some (.string ⟨#[]⟩):=p.out.node.cellAt 2 (by omega)
 have y3:d.cell? ⟨b.heap.size,3,none⟩=some (.slice none 0 0):=p.out.node.cellAt 3 (by omega)
 have y4:d.cell? ⟨b.heap.size,4,none⟩=some (.slice none 0 0):=p.out.node.cellAt 4 (by omega)
 have f1:d.frozen? ⟨b.heap.size,1,none⟩=false:=p.out.node.frozenAt 1
 have c:=Xa ((p.out.put 1 (.int .i64 n)).grow (World.grownBy_alloc _ (.cells #[.int .i64 n] 114) none))
 have x0:((d.setCell ⟨b.heap.size,1,none⟩ (.int .i64 n)).alloc (.cells #[.int .i64 n] 114)).cell? ⟨b.heap.size,0,none⟩=some (.int .i64 3):=c.out.node.cellAt 0 (by omega)
 have x1:((d.setCell ⟨b.heap.size,1,none⟩ (.int .i64 n)).alloc (.cells #[.int .i64 n] 114)).cell? ⟨b.heap.size,1,none⟩=some (.int .i64 n):=c.out.node.cellAt 1 (by omega)
 have x2:((d.setCell ⟨b.heap.size,1,none⟩ (.int .i64 n)).alloc (.cells #[.int .i64 n] 114)).cell? ⟨b.heap.size,2,none⟩=some (.string ⟨#[]⟩):=c.out.node.cellAt 2 (by omega)
 have x3:((d.setCell ⟨b.heap.size,1,none⟩ (.int .i64 n)).alloc (.cells #[.int .i64 n] 114)).cell? ⟨b.heap.size,3,none⟩=some (.slice none 0 0):=c.out.node.cellAt 3 (by omega)
 have x4:((d.setCell ⟨b.heap.size,1,none⟩ (.int .i64 n)).alloc (.cells #[.int .i64 n] 114)).cell? ⟨b.heap.size,4,none⟩=some (.slice none 0 0):=c.out.node.cellAt 4 (by omega)
 have T:=Xa (c.out.nest.row.alloc (.cells #[.int .i64 3, .int .i64 n, .string ⟨#[]⟩, .slice none 0 0, .slice none 0 0] 75))
 have V:=Xa c.out.frame.size
 go_loopw [0,18] (fun o i wr=>o= .slice L ns.length M/\i= .int .i64 0/\wr=d) (fun _ _ _=>0)
 case atStart=>exact ⟨rfl,rfl,rfl⟩
 case round=>
  obtain ⟨rfl,rfl,G⟩:=hrel
  rw[G]
  clear G
  go_wp2_with (at_builtin;refine wpList_append_own_at _ rfl _ _ 25 rfl base 75 S zeroNode 5 80 Tryz.underlying25 z B C D rfl (by decide) _ _ _ rfl T.out ⟨d.heap.size+1,0,none⟩ 1 1 [.int .i64 3, .int .i64 n, .string ⟨#[]⟩, .slice none 0 0, .slice none 0 0] rfl rfl ?c1 ?c2 ?c3 ?c4 ?c5 ?_)
  case c1=>exact Xd3 _ _ _ _ _ _ _ (by simp)
  case c2=>intro u J;simp at J;rcases J with rfl|rfl|rfl|rfl|rfl<;>rfl
  case c3=>simp[maxLen];omega
  case c4=>simp;omega
  case c5=>have:=V.out;simp at this|-;omega
  intro v' w6 g f _ t
  have X:=Xa (Mid.fin (x:={kind:=3,n:=n,s:=⟨#[]⟩,keys:= [],kids:= []}) c.out rfl (World.ownsRow_nil _ _ _ _) (fun j _ y hy=>by simp[Value.ownBlock] at hy) (by simpa using g) f (by simpa using t))
  clear g f t
  go_wp2_with fail
  go_ret
  exact ⟨_,_,_,rfl,X.out⟩
theorem Xkk (s:ByteArray) (base:Nat) (v:Value) (ns:List VN) (KV IV:Nat->Value) (w:World) (h:Nest base w v ns KV IV) (hb:base<=w.heap.size) (hn:ns.length<=100000):
  Calls Tryz.prog 31 #[v, .iface 116 (.agg #[.string s])] w fun e w'=>∃v' KV' IV',e= .returned v'/\Laid base w w' v v' ns [{kind:=4,n:=0,s:=s,keys:= [],kids:= []}] KV IV KV' IV':=by
 have H:=Xa h
 obtain ⟨L,M,rfl⟩:=Xg h.row
 clear h
 have P:=Xbj
 have R:=Wv
 have S:=Um
 obtain ⟨T,z,B,C,D⟩:=info_parts Kj
 go_enter Tryz.func31,Tryz.ntmps31
 go_wp2_with fail
 refine (Kz _ _).mono ?_
 rintro e b ⟨rfl,q⟩
 have F:=Xa q
 go_wp2_with fail
 refine (Xda _ _).mono ?_
 rintro e d ⟨rfl,l⟩
 have p:=Xa (Mid.start H.out hb F.out l)
 have Z:b.heap.size<d.heap.size:=by have:=l.size;simp at this;omega
 clear q l
 go_wp2_with fail
 have y0:d.cell? ⟨b.heap.size,0,none⟩=some (.int .i64 4):=p.out.node.cellAt 0 (by omega)
 have y1:d.cell? ⟨b.heap.size,1,none⟩=some (.int .i64 0):=p.out.node.cellAt 1 (by omega)
 have y2:d.cell? ⟨b.heap.size,2,none⟩=some (.string ⟨#[]⟩):=p.out.node.cellAt 2 (by omega)
 have y3:d.cell? ⟨b.heap.size,3,none⟩=some (.slice none 0 0):=p.out.node.cellAt 3 (by omega)
 have y4:d.cell? ⟨b.heap.size,4,none⟩=some (.slice none 0 0):=p.out.node.cellAt 4 (by omega)
 have f2:d.frozen? ⟨b.heap.size,2,none⟩=false:=p.out.node.frozenAt 2
 have c:=Xa ((p.out.put 2 (.string s)).grow (World.grownBy_alloc _ (.cells #[.string s] 116) none))
 have x0:((d.setCell ⟨b.heap.size,2,none⟩ (.string s)).alloc (.cells #[.string s] 116)).cell? ⟨b.heap.size,0,none⟩=some (.int .i64 4):=c.out.node.cellAt 0 (by omega)
 have x1:((d.setCell ⟨b.heap.size,2,none⟩ (.string s)).alloc (.cells #[.string s] 116)).cell? ⟨b.heap.size,1,none⟩=some (.int .i64 0):=c.out.node.cellAt 1 (by omega)
 have x2:((d.setCell ⟨b.heap.size,2,none⟩ (.string s)).alloc (.cells #[.string s] 116)).cell? ⟨b.heap.size,2,none⟩=some (.string s):=c.out.node.cellAt 2 (by omega)
 have x3:((d.setCell ⟨b.heap.size,2,none⟩ (.string s)).alloc (.cells #[.string s] 116)).cell? ⟨b.heap.size,3,none⟩=some (.slice none 0 0):=c.out.node.cellAt 3 (by omega)
 have x4:((d.setCell ⟨b.heap.size,2,none⟩ (.string s)).alloc (.cells #[.string s] 116)).cell? ⟨b.heap.size,4,none⟩=some (.slice none 0 0):=c.out.node.cellAt 4 (by omega)
 have V:=Xa (c.out.nest.row.alloc (.cells #[.int .i64 4, .int .i64 0, .string s, .slice none 0 0, .slice none 0 0] 75))
 have X:=Xa c.out.frame.size
 go_loopw [0,18] (fun o i wr=>o= .slice L ns.length M/\i= .int .i64 0/\wr=d) (fun _ _ _=>0)
 case atStart=>exact ⟨rfl,rfl,rfl⟩
 case round=>
  obtain ⟨rfl,rfl,G⟩:=hrel
  rw[G]
  clear G
  go_wp2_with (at_builtin;refine wpList_append_own_at _ rfl _ _ 25 rfl base 75 T zeroNode 5 80 Tryz.underlying25 z B C D rfl (by decide) _ _ _ rfl V.out ⟨d.heap.size+1,0,none⟩ 1 1 [.int .i64 4, .int .i64 0, .string s, .slice none 0 0, .slice none 0 0] rfl rfl ?c1 ?c2 ?c3 ?c4 ?c5 ?_)
  case c1=>exact Xd3 _ _ _ _ _ _ _ (by simp)
  case c2=>intro u J;simp at J;rcases J with rfl|rfl|rfl|rfl|rfl<;>rfl
  case c3=>simp[maxLen];omega
  case c4=>simp;omega
  case c5=>have:=X.out;simp at this|-;omega
  intro v' w6 g f _ t
  have Y:=Xa (Mid.fin (x:={kind:=4,n:=0,s:=s,keys:= [],kids:= []}) c.out rfl (World.ownsRow_nil _ _ _ _) (fun j _ y hy=>by simp[Value.ownBlock] at hy) (by simpa using g) f (by simpa using t))
  clear g f t
  go_wp2_with fail
  go_ret
  exact ⟨_,_,_,rfl,Y.out⟩


theorem Mid.keepB {base:Nat} {w wr:World} {nb:Nat} {v0 v kv:Value} {ns acc:List VN} {ks:List Int} {cs:List Value} {KV0 IV0 KV IV:Nat->Value} {B:Nat} (h:Mid base w wr nb v0 v kv ns acc ks cs KV0 IV0 KV IV) (hB:B<=base):∀k,k<B->wr.heap[k]? =w.heap[k]? :=
 fun k hk=>h.frame.block k (by have:=h.hbase;omega) (fun e=>by have:=h.v0b k e.symm;omega)
def Xjw (B base f:Nat):Prop:=
 ∀(t:VT) (x v:Value) (ns:List VN) (KV IV:Nat->Value) (w:World),Nest base w v ns KV IV->TreeAt B w f t x->base<=w.heap.size->ns.length+(Yb f t ns.length).length<=100000->
  Calls Tryz.prog 31 #[v,x] w fun e w'=>∃v' KV' IV',e= .returned v'/\Laid base w w' v v' ns (Yb f t ns.length) KV IV KV' IV'
theorem Xik {base:Nat} {w w3 w5:World} {nb:Nat} {v0 v kv:Value} {ns acc:List VN} {ks:List Int} {cs:List Value} {KV0 IV0 KV IV:Nat->Value} {o:Obj} (h:Mid base w w3 nb v0 v kv ns acc ks cs KV0 IV0 KV IV) (hg:(w3.alloc o).grownBy w5 kv.ownBlock):
  w5.ownsRow w.heap.size 75 5 (.slice (some ⟨nb,0,none⟩) 1 1) 1 cs:=
 h.node.kept ((World.grownBy_alloc w3 o _).trans hg) (Yj h.node h.kids (by decide))
theorem Xjx (B base f:Nat) (hB:B<=base) (ih:Xjw B base f) (kids:List VT) (it v:Value) (ns:List VN) (KV IV:Nat->Value) (w:World) (hit:Q8 B w it kids.length (fun j u=>TreeAt B w f (Yf kids j) u)) (h:Nest base w v ns KV IV) (hb:base<=w.heap.size) (hn:ns.length+(Xx f ns.length kids kids.length).length+1<=100000):
  Calls Tryz.prog 31 #[v, .iface 158 (.agg #[it])] w fun e w'=>∃v' KV' IV',e= .returned v'/\Laid base w w' v v' ns (Xx f ns.length kids kids.length++ [{kind:=5,n:=0,s:=ByteArray.empty,keys:= [],kids:=ksT f ns.length kids kids.length}]) KV IV KV' IV':=by
 have H:=Xa h
 obtain ⟨av,cv,rfl⟩:=Xg h.row
 clear h
 obtain ⟨bt,ai,ci,rfl,hx⟩:=hit
 have HX:=Xa hx
 have IH:=Xa ih
 clear hx ih
 have bu:=Xbk
 have bv:=Vk
 have bw:=Xbl
 have bx:=Xgj
 obtain ⟨i0,bd,be,bf,bg⟩:=info_parts Kj
 obtain ⟨i2,bh,bi,bj,bk⟩:=info_parts Wg
 go_enter Tryz.func31,Tryz.ntmps31
 go_wp2_with fail
 refine (V3 _ _ _ _).mono ?_
 rintro e C ⟨rfl,P⟩
 have bl:=Xa P
 go_wp2_with fail
 refine (Ka _ _ _ _).mono ?_
 rintro e w2 ⟨rfl,J⟩
 have l:=Xa (Mid.start H.out hb bl.out J)
 have z2:C.heap.size<w2.heap.size:=by have:=J.size;simp at this;omega
 clear P J
 go_wp2_with fail
 go_loopw [0,18] (fun o i wr=>∃(k:Nat) (G:Value) (KV' IV':Nat->Value),k<=kids.length/\i= .int .i64 k/\Mid base w wr C.heap.size (.slice av ns.length cv) o G ns (Xx f ns.length kids k) (ksT f ns.length kids k) [.int .i64 5, .int .i64 0, .string ⟨#[]⟩, .slice none 0 0,G] KV IV KV' IV') (fun _ i _=>kids.length-(intOf i).toNat)
 case atStart=>exact ⟨0,_,_,_,Nat.zero_le _,rfl,by rw[Qk,Q0];exact l.out⟩
 case round=>
  obtain ⟨k,G,KV',IV',hk,rfl,hm⟩:=hrel
  clear l z2
  have l:=Xa hm
  obtain ⟨ao,co,ho⟩:=Xg hm.nest.row
  obtain ⟨M,hM⟩:∃M,(ns++Xx f ns.length kids k).length=M:=⟨_,rfl⟩
  have R:=Xa hM
  have S:=Xa8 f ns.length kids k
  rw[hM] at ho
  subst ho
  have bz:=hm.frame.size
  have b0:M+1<=100000:=by rw[<-hM,List.length_append];omega
  clear hm hM
  by_cases hlt:k<kids.length
  ·obtain ⟨b,rfl,bm,hc⟩:=HX.out (by omega)
   obtain ⟨t,x,T,V⟩:=hc k hlt
   have bs:wr.cell? ⟨b,k,none⟩=some (.iface t x):=(World.cell?_of_block (l.out.keepB hB b bm)).trans T
   have HT:=Xa (TreeAt.keep (l.out.keepB hB) (Nat.le_refl _) V)
   have p:=Xa8 f ns.length kids (k+1)
   have HA:=Xa (Zg f ns.length hlt)
   have X:Hid ((ns++Xx f ns.length kids k).length=ns.length+(Xx f ns.length kids k).length):=List.length_append
   clear hc T V
   go_wp2_with fail
   refine (IH.out (Yf kids k) (.iface t x) _ (ns++Xx f ns.length kids k) KV' IV' wr l.out.nest HT.out (by omega) (by rw[X.out];rw[HA.out,List.length_append] at p;omega)).mono ?_
   rintro e w3 ⟨v3,bn,bo,rfl,hl⟩
   have D:=l.out.laid hl
   rw[X.out,<-HA.out] at D
   have q:=Xa D
   obtain ⟨a3,c3,h3⟩:=Xg D.nest.row
   obtain ⟨L,Y⟩:∃L,(ns++Xx f ns.length kids (k+1)).length=L:=⟨_,rfl⟩
   rw[Y] at h3
   subst h3
   have b1:L<=100000:=by rw[<-Y,List.length_append];omega
   have bp:Hid (ksT f ns.length kids (k+1)=ksT f ns.length kids k++ [(L:Int)-1]):=by rw[Hid,Qp f ns.length hlt,<-Y,List.length_append]
   have Z:=Xcr f ns.length kids hk
   have F:=Xa Z
   have y4:w3.cell? ⟨C.heap.size,4,none⟩=some G:=q.out.node.cellAt 4 (by omega)
   have b2:1<=L:=by
    have:=Xmu HT.out (ns.length+(Xx f ns.length kids k).length)
    rw[<-Y,HA.out,List.length_append,List.length_append]
    omega
   have ba:=Xa q.out.kids
   obtain ⟨ak,ck,bb⟩:=Xg ba.out
   rw[F.out] at bb
   subst bb
   have bq:=Xa q.out.frame.size
   clear D hl Y Z S p
   go_wp2_with (at_builtin;refine wpList_append_own_at _ rfl _ _ 73 rfl w.heap.size 2 i2 (.int .i64 0) 1 8 Tryz.underlying73 bh bi bj bk rfl (by decide) _ _ _ rfl (ba.out.alloc _) ⟨w3.heap.size,0,none⟩ 1 1 [.int .i64 ((L:Int)-1)] rfl rfl ?c1 ?c2 ?c3 ?c4 ?c5 ?_)
   case c1=>exact cell_one_new _ _ _
   case c2=>intro u hu;simp at hu;subst hu;rfl
   case c3=>rw[F.out];simp[maxLen];omega
   case c4=>rw[F.out];omega
   case c5=>have:=bq.out;simp;omega
   intro b3 w5 g d _ z
   obtain ⟨b4,b5,bc⟩:=Xg g
   rw[F.out] at bc
   subst bc
   have n5:=Xik q.out d
   have x4:w5.cell? ⟨C.heap.size,4,none⟩=some (.slice ak k ck):=n5.cellAt 4 (by omega)
   have f4:w5.frozen? ⟨C.heap.size,4,none⟩=false:=n5.frozenAt 4
   have br:=Xa (q.out.kid g d (by simpa using z))
   clear g d z n5
   go_wp2_with fail
   go_roundw
   case rel=>exact ⟨k+1,_,bn,bo,by omega,by go_num,by rw[bp.out];exact br.out⟩
   case measure=>simp[intOf];omega
  ·obtain rfl:k=kids.length:=by omega
   have y0:wr.cell? ⟨C.heap.size,0,none⟩=some (.int .i64 5):=l.out.node.cellAt 0 (by omega)
   have y1:wr.cell? ⟨C.heap.size,1,none⟩=some (.int .i64 0):=l.out.node.cellAt 1 (by omega)
   have y2:wr.cell? ⟨C.heap.size,2,none⟩=some (.string ⟨#[]⟩):=l.out.node.cellAt 2 (by omega)
   have y3:wr.cell? ⟨C.heap.size,3,none⟩=some (.slice none 0 0):=l.out.node.cellAt 3 (by omega)
   have y4:wr.cell? ⟨C.heap.size,4,none⟩=some G:=l.out.node.cellAt 4 (by omega)
   have HN:=Xa (l.out.nest.row.alloc (.cells #[.int .i64 5, .int .i64 0, .string ⟨#[]⟩, .slice none 0 0,G] 75))
   rw[R.out] at HN
   have h1:G.oneCell'=true:=by obtain ⟨a,c,rfl⟩:=Xg l.out.kids;rfl
   go_wp2_with (at_builtin;refine wpList_append_own_at _ rfl _ _ 25 rfl base 75 i0 zeroNode 5 80 Tryz.underlying25 bd be bf bg rfl (by decide) _ _ _ rfl HN.out ⟨wr.heap.size,0,none⟩ 1 1 [.int .i64 5, .int .i64 0, .string ⟨#[]⟩, .slice none 0 0,G] rfl rfl ?c1 ?c2 ?c3 ?c4 ?c5 ?_)
   case c1=>exact Xvd _ _ _ _ _ _
   case c2=>intro u hu;simp at hu;rcases hu with rfl|rfl|rfl|rfl|rfl<;>first|rfl|exact h1
   case c3=>unfold maxLen;omega
   case c4=>omega
   case c5=>simp;omega
   intro v' w6 g d _ z
   have HL:=Xa (Mid.fin (x:={kind:=5,n:=0,s:=⟨#[]⟩,keys:= [],kids:=ksT f ns.length kids kids.length}) l.out rfl (World.ownsRow_nil _ _ _ _) (fun j _ y hy=>by simp[Value.ownBlock] at hy) (by rw[R.out];exact g) d z)
   clear g d z
   go_wp2_with fail
   go_ret
   exact ⟨_,_,_,rfl,HL.out⟩


def ItemsG (lo B:Nat) (w:World) (it:Value) (n:Nat) (P:Nat->Value->Prop):Prop:=
 ∃a cap,it= .slice a n cap/\(0<n->∃b,a=some ⟨b,0,none⟩/\True/\b<B/\∀j,j<n->∃t x,w.cell? ⟨b,j,none⟩=some (.iface t x)/\P j (.iface t x))
def ValG (lo B:Nat) (w:World) (vs:List VN):Nat->Nat->Value->Prop
 |0,_,_=>False
 |f+1,i,v=>
  ((Xb vs i).kind=1/\v= .iface 160 (.agg #[]))\/
  ((Xb vs i).kind=2/\v= .iface 113 (.agg #[.int .i64 (Xb vs i).n]))\/
  ((Xb vs i).kind=3/\v= .iface 114 (.agg #[.int .i64 (Xb vs i).n]))\/
  ((Xb vs i).kind=4/\v= .iface 116 (.agg #[.string (Xb vs i).s]))\/
  ((Xb vs i).kind=5/\∃it,v= .iface 158 (.agg #[it])/\ItemsG lo B w it (Xb vs i).kids.length (fun j u=>ValG lo B w vs f (Xj (Xb vs i).kids j).toNat u))\/
  ((Xb vs i).kind=6/\∃ks it,v= .iface 118 (.agg #[ks,it])/\StrsAt B w ks (Xb vs i).keys/\ItemsG lo B w it (Xb vs i).kids.length (fun j u=>ValG lo B w vs f (Xj (Xb vs i).kids j).toNat u))
theorem ValG.iface {lo B:Nat} {w:World} {vs:List VN} {f i:Nat} {v:Value} (h:ValG lo B w vs f i v):∃t x,v= .iface t x:=by
 cases f with
 |zero=>exact h.elim
 |succ f=>
  rcases h with ⟨_,rfl⟩|⟨_,rfl⟩|⟨_,rfl⟩|⟨_,rfl⟩|⟨_,it,rfl,_⟩|⟨_,ks,it,rfl,_⟩<;>exact ⟨_,_,rfl⟩
theorem Z9 {B:Nat} {w w':World} (h:Below B w w'):∀k,k<B->w'.heap[k]? =w.heap[k]? :=fun k hk=>h.block k hk
theorem ValG.keep {lo B B':Nat} {w w':World} {vs:List VN} (hk:∀k,k<B->w'.heap[k]? =w.heap[k]?) (hB:B<=B') (hlo:lo<=B):∀{f i:Nat} {v:Value},ValG lo B w vs f i v->ValG lo B' w' vs f i v:=by
 intro f
 induction f with
 |zero=>intro i v h;exact h.elim
 |succ f ih=>
  intro i v h
  have d:∀c,ItemsG lo B w c (Xb vs i).kids.length (fun j u=>ValG lo B w vs f (Xj (Xb vs i).kids j).toNat u)->ItemsG lo B' w' c (Xb vs i).kids.length (fun j u=>ValG lo B' w' vs f (Xj (Xb vs i).kids j).toNat u):=by
   rintro c ⟨a,g,e,l⟩
   refine ⟨a,g,e,fun hn=> ?_⟩
   obtain ⟨b,o,p,q,s⟩:=l hn
   refine ⟨b,o,p,by omega,fun j hj=> ?_⟩
   obtain ⟨t,x,y,z⟩:=s j hj
   exact ⟨t,x,(World.cell?_of_block (hk b q)).trans y,ih z⟩
  rcases h with h|h|h|h|⟨hk5,c,e,hi⟩|⟨hk6,ks,c,e,hs,hi⟩
  ·exact Or.inl h
  ·exact Or.inr (Or.inl h)
  ·exact Or.inr (Or.inr (Or.inl h))
  ·exact Or.inr (Or.inr (Or.inr (Or.inl h)))
  ·exact Or.inr (Or.inr (Or.inr (Or.inr (Or.inl ⟨hk5,c,e,d c hi⟩))))
  ·exact Or.inr (Or.inr (Or.inr (Or.inr (Or.inr ⟨hk6,ks,c,e,(hs.keep (lo:=B) (B:=B) (fun k _ hk'=>hk k hk') (Nat.le_refl _)).wide hB,d c hi⟩))))
theorem ValG.more {lo B:Nat} {w:World} {vs:List VN}:∀{f g i:Nat} {v:Value},f<=g->ValG lo B w vs f i v->ValG lo B w vs g i v:=by
 intro f
 induction f with
 |zero=>intro g i v _ h;exact h.elim
 |succ f ih=>
  intro g i v d h
  match g,d with
  |g+1,d=>
   have l:∀c,ItemsG lo B w c (Xb vs i).kids.length (fun j u=>ValG lo B w vs f (Xj (Xb vs i).kids j).toNat u)->ItemsG lo B w c (Xb vs i).kids.length (fun j u=>ValG lo B w vs g (Xj (Xb vs i).kids j).toNat u):=by
    rintro c ⟨a,o,e,p⟩
    refine ⟨a,o,e,fun hn=> ?_⟩
    obtain ⟨b,q,s,y,z⟩:=p hn
    refine ⟨b,q,s,y,fun j hj=> ?_⟩
    obtain ⟨t,x,C,D⟩:=z j hj
    exact ⟨t,x,C,ih (by omega) D⟩
   rcases h with h|h|h|h|⟨hk5,c,e,hi⟩|⟨hk6,ks,c,e,hs,hi⟩
   ·exact Or.inl h
   ·exact Or.inr (Or.inl h)
   ·exact Or.inr (Or.inr (Or.inl h))
   ·exact Or.inr (Or.inr (Or.inr (Or.inl h)))
   ·exact Or.inr (Or.inr (Or.inr (Or.inr (Or.inl ⟨hk5,c,e,l c hi⟩))))
   ·exact Or.inr (Or.inr (Or.inr (Or.inr (Or.inr ⟨hk6,ks,c,e,hs,l c hi⟩))))
theorem ValG.tree {lo B:Nat} {w:World} {vs:List VN} (hlo:lo<=B) (hr:∀k,k<vs.length->Xz (Xb vs k)=true/\Z5 vs k=true) (hk:∀k,k<vs.length->(Xb vs k).kids.length<=k) (h80:vs.length<=80):∀{f i:Nat} {v:Value},i<vs.length->ValG lo B w vs f i v->TreeAt B w f (Xt vs f i) v:=by
 intro f
 induction f with
 |zero=>intro i v _ h;exact h.elim
 |succ f ih=>
  intro i v g h
  have o:∀c,ItemsG lo B w c (Xb vs i).kids.length (fun j u=>ValG lo B w vs f (Xj (Xb vs i).kids j).toNat u)->Q8 B w c ((Xb vs i).kids.map fun k=>Xt vs f k.toNat).length (fun j u=>TreeAt B w f (Yf ((Xb vs i).kids.map fun k=>Xt vs f k.toNat) j) u):=by
   rintro c ⟨a,C,e,F⟩
   refine ⟨by have:=hk i g;simp;omega,a,C,by simpa using e,fun l=> ?_⟩
   rw[List.length_map] at l
   obtain ⟨b,G,P,J,L⟩:=F l
   refine ⟨b,G,J,fun j hj=> ?_⟩
   rw[List.length_map] at hj
   obtain ⟨t,x,D,M⟩:=L j hj
   refine ⟨t,x,D, ?_⟩
   show TreeAt B w f (Yf ((Xb vs i).kids.map fun k=>Xt vs f k.toNat) j) (.iface t x)
   rw[G7 hj]
   have R:=Zw (hr i g).2 hj
   exact ih (by omega) M
  have l:=(hr i g).1
  unfold Xz Yr at l
  have p:∀s:ByteArray,s.toList= []->s=ByteArray.empty:=fun s h=>by
   cases s with|mk d=>rw[ByteArray.toList_eq] at h;simp at h;subst h;rfl
  simp only[Bool.and_eq_true,Bool.not_eq_true',Bool.and_eq_false_iff,decide_eq_false_iff_not,Decidable.not_not,Nat.not_lt,Nat.le_zero,List.length_eq_zero_iff] at l
  obtain ⟨⟨⟨⟨S,q⟩,y⟩,z⟩,_⟩:=l
  rw[Xt]
  rcases h with ⟨k1,e⟩|⟨k2,e⟩|⟨k3,e⟩|⟨k4,e⟩|⟨k5,c,e,g⟩|⟨k6,ks,c,e,hs,g⟩
  ·exact Or.inl ⟨k1,by omega,p _ (by rcases q with h|h;omega;exact h),by rcases y with h|h;omega;exact h,by rcases z with (h|h)|h;omega;omega;rw[h];rfl,e⟩
  ·exact Or.inr (Or.inl ⟨k2,p _ (by rcases q with h|h;omega;exact h),by rcases y with h|h;omega;exact h,by rcases z with (h|h)|h;omega;omega;rw[h];rfl,e⟩)
  ·exact Or.inr (Or.inr (Or.inl ⟨k3,p _ (by rcases q with h|h;omega;exact h),by rcases y with h|h;omega;exact h,by rcases z with (h|h)|h;omega;omega;rw[h];rfl,e⟩))
  ·exact Or.inr (Or.inr (Or.inr (Or.inl ⟨k4,by omega,by rcases y with h|h;omega;exact h,by rcases z with (h|h)|h;omega;omega;rw[h];rfl,e⟩)))
  ·exact Or.inr (Or.inr (Or.inr (Or.inr (Or.inl ⟨k5,by omega,p _ (by rcases q with h|h;omega;exact h),by rcases y with h|h;omega;exact h,c,e,o c g⟩))))
  ·exact Or.inr (Or.inr (Or.inr (Or.inr (Or.inr ⟨k6,by omega,p _ (by rcases q with h|h;omega;exact h),ks,c,e,hs,o c g⟩))))
theorem TreeAt.val {lo B:Nat} {w:World} {vs:List VN}:∀{f i:Nat} {v:Value},TreeAt B w f (Xt vs f i) v->ValG lo B w vs f i v:=by
 intro f
 induction f with
 |zero=>intro i v h;exact h.elim
 |succ f ih=>
  intro i v h
  rw[Xt] at h
  have d:∀c,Q8 B w c ((Xb vs i).kids.map fun k=>Xt vs f k.toNat).length (fun j u=>TreeAt B w f (Yf ((Xb vs i).kids.map fun k=>Xt vs f k.toNat) j) u)->ItemsG lo B w c (Xb vs i).kids.length (fun j u=>ValG lo B w vs f (Xj (Xb vs i).kids j).toNat u):=by
   rintro c ⟨_,a,g,e,o⟩
   rw[List.length_map] at e o
   refine ⟨a,g,e,fun hn=> ?_⟩
   obtain ⟨b,p,q,s⟩:=o hn
   refine ⟨b,p,trivial,q,fun j hj=> ?_⟩
   obtain ⟨t,x,y,z⟩:=s j hj
   refine ⟨t,x,y,ih ?_⟩
   have l:TreeAt B w f (Yf ((Xb vs i).kids.map fun k=>Xt vs f k.toNat) j) (.iface t x):=z
   rwa [G7 hj] at l
  rcases h with ⟨k,_,_,_,_,e⟩|⟨k,_,_,_,e⟩|⟨k,_,_,_,e⟩|⟨k,_,_,_,e⟩|⟨k,_,_,_,c,e,hi⟩|⟨k,_,_,ks,c,e,hs,hi⟩
  ·exact Or.inl ⟨k,e⟩
  ·exact Or.inr (Or.inl ⟨k,e⟩)
  ·exact Or.inr (Or.inr (Or.inl ⟨k,e⟩))
  ·exact Or.inr (Or.inr (Or.inr (Or.inl ⟨k,e⟩)))
  ·exact Or.inr (Or.inr (Or.inr (Or.inr (Or.inl ⟨k,c,e,d c hi⟩))))
  ·exact Or.inr (Or.inr (Or.inr (Or.inr (Or.inr ⟨k,ks,c,e,hs,d c hi⟩))))


structure KindIs (t:Nat) (x:Value) (F:FuncId) (k:Int):Prop where
 meth : ∀ w, (Go.method 389 t x "loop.example/g00345/impl.kind").run Tryz.prog w = .ok (F, x) w
 enter:∀w,(callFunc F #[x]).run Tryz.prog w= .ok (.enter F #[x]) w
 says:∀w,Calls Tryz.prog F #[x] w fun e w'=>e= .returned (.int .i64 k)/\Below w.heap.size w w'
theorem Qc {lo B:Nat} {w:World} {vs:List VN} {f i:Nat} {v:Value} (h:ValG lo B w vs f i v):∃t x F,v= .iface t x/\KindIs t x F (Xb vs i).kind:=by
 cases f with
 |zero=>exact h.elim
 |succ f=>
  rcases h with ⟨k,rfl⟩|⟨k,rfl⟩|⟨k,rfl⟩|⟨k,rfl⟩|⟨k,it,rfl,hi⟩|⟨k,ks,it,rfl,hs,hi⟩
  ·rw[k];exact ⟨_,_,250,rfl,fun w=>by kernel_rfl,fun w=>by kernel_rfl,fun w=>Kw w⟩
  ·rw[k];exact ⟨_,_,240,rfl,fun w=>by kernel_rfl,fun w=>by kernel_rfl,fun w=>Kx _ w⟩
  ·rw[k];exact ⟨_,_,242,rfl,fun w=>by kernel_rfl,fun w=>by kernel_rfl,fun w=>Ky _ w⟩
  ·rw[k];exact ⟨_,_,244,rfl,fun w=>by kernel_rfl,fun w=>by kernel_rfl,fun w=>Kz _ w⟩
  ·obtain ⟨a,c,rfl,_⟩:=hi
   rw[k];exact ⟨_,_,248,rfl,fun w=>by kernel_rfl,fun w=>by kernel_rfl,fun w=>V3 _ _ _ w⟩
  ·obtain ⟨a,c,rfl,_⟩:=hi
   obtain ⟨_,_,b,d,rfl,_⟩:=hs
   rw[k];exact ⟨_,_,246,rfl,fun w=>by kernel_rfl,fun w=>by kernel_rfl,fun w=>K3 _ _ _ _ _ _ w⟩


def Ys (vs:List VN) (n:Nat):List VN:=run vs (-(trF (tr (Yc vs) n))) (trF (tr (Yc vs) n)).toNat (n+1-(trF (tr (Yc vs) n)).toNat)
theorem K7 {vs:List VN} (h:okB vs=true):∀k,k<vs.length->Z5 vs k=true/\(Xb vs k).kids.length<=80/\(Xb vs k).keys.length<=80:=by
 intro k d
 obtain ⟨j,f,_,g⟩:=Xm h
 have c:=f k d
 have:=g k d
 refine ⟨c.2,by omega, ?_⟩
 by_cases e:(Xb vs k).kind=6
 ·have b:=c.1
  unfold Xz Zi at b
  simp[e] at b
  omega
 ·have b:=c.1
  unfold Xz Yr at b
  simp[e] at b
  have:=b.1.1.2
  simp[this]
theorem G0 {vs:List VN} (hok:okB vs=true) {f m:Nat} (hf:m<f) (hm:m<vs.length):Yb f (Xt vs f m) 0=Ys vs m/\(Ys vs m).length<=80:=by
 obtain ⟨j,_,d,_⟩:=Xm hok
 obtain ⟨⟨c,g⟩,b⟩:=d m hm
 have e:Ys vs m=run vs (-(c:Int)) c (m+1-c):=by rw[Ys,b];simp[trF]
 rw[<-We,Xa7 vs f m 0 c g hf b,e]
 exact ⟨by simp,by rw[K6];omega⟩
theorem Xvm {vs:List VN} (hok:okB vs=true) (hf:∀i,i<vs.length->Fits (Xb vs i)) {m:Nat} (hm:m<vs.length):∀i,i<(Ys vs m).length->Fits (Xb (Ys vs m) i)/\(Xb (Ys vs m) i).keys.length<=80/\(Xb (Ys vs m) i).kids.length<=80:=by
 obtain ⟨s,t,l,y⟩:=Xm hok
 obtain ⟨⟨b,z⟩,d⟩:=l m hm
 have e:Ys vs m=run vs (-(b:Int)) b (m+1-b):=by rw[Ys,d];simp[trF]
 rw[e]
 intro i o
 rw[K6] at o
 have p:Xb (run vs (-(b:Int)) b (m+1-b)) i=X5 (-(b:Int)) (Xb vs (b+i)):=by
  unfold run
  conv=>lhs;unfold Xb
  rw[List.getD_eq_getElem?_getD,List.getElem?_map,List.getElem?_range' (by omega)]
  simp[Xb]
 rw[p]
 have f:=hf (b+i) (by omega)
 have g:=K7 hok (b+i) (by omega)
 refine ⟨⟨f.keysN,f.keysS,by simpa [X5] using f.kidsN,fun j hj=> ?_,f.size,f.klo,f.khi,f.nlo,f.nhi⟩,g.2.2,by simpa [X5] using g.2.1⟩
 have c:j<(Xb vs (b+i)).kids.length:=by simpa [X5] using hj
 have B:=Zw g.1 c
 have q:Xj (X5 (-(b:Int)) (Xb vs (b+i))).kids j=Xj (Xb vs (b+i)).kids j+ -(b:Int):=by
  rw[Y8 hj,Y8 c];simp[X5]
 rw[q]
 omega


theorem Xt6 {K:Nat->List Int}:∀(l:List Int) (b h:Nat) (q:Nat×Nat),l.foldl (Xy (tr K)) (some (b,h))=some q->h<=q.2/\q.1<=b/\∀m,q.1<=m->m<b->∃k p,tr K k=some p/\p.1<=m/\m<=k/\q.1<=p.1/\p.2<=q.2/\k<b:=by
 intro l
 induction l with
 |nil=>intro b h q e;simp at e;subst e;exact ⟨Nat.le_refl _,Nat.le_refl _,fun m d g=>absurd d (by simp only;omega)⟩
 |cons k l ih=>
  intro b h q e
  obtain ⟨p,d,g,f,j⟩:=Qa e
  have G:=Ko f
  obtain ⟨J,o,s⟩:=ih _ _ _ j
  refine ⟨by omega,by omega,fun m hm1 hm2=> ?_⟩
  by_cases c:m<p.1
  ·obtain ⟨t,y,z,B,C,D,F,L⟩:=s m hm1 c
   exact ⟨t,y,z,B,C,D,F,by omega⟩
  ·exact ⟨b-1,p,f,by omega,by omega,o,by omega,by omega⟩
theorem Xjy {K:Nat->List Int} {n:Nat} {p:Nat×Nat} (h:tr K n=some p):∃q,(K n).reverse.foldl (Xy (tr K)) (some (n,0))=some q/\p=(q.1,q.2+1):=by
 rw[Gy] at h
 cases e:(K n).reverse.foldl (Xy (tr K)) (some (n,0)) with
 |none=>simp[e] at h
 |some q=>simp[e] at h;exact ⟨q,rfl,h.symm⟩
theorem Xob {K:Nat->List Int}:∀(N n:Nat) (p:Nat×Nat),n<N->tr K n=some p->∀m,p.1<=m->m<=n->∃r,tr K m=some r/\p.1<=r.1/\r.2<=p.2:=by
 intro N
 induction N with
 |zero=>intro n p h;omega
 |succ N ih=>
  intro n p s h m b t
  by_cases e:m=n
  ·subst e;exact ⟨p,h,Nat.le_refl _,Nat.le_refl _⟩
  ·obtain ⟨q,c,rfl⟩:=Xjy h
   obtain ⟨_,_,d⟩:=Xt6 _ _ _ _ c
   obtain ⟨k,r,f,g,j,y,z,B⟩:=d m b (by omega)
   obtain ⟨l,o,C,D⟩:=ih k r (by omega) f m g j
   exact ⟨l,o,by simp only at *;omega,by simp only at *;omega⟩
theorem Xt7 {T T':Nat->Option (Nat×Nat)} {a N:Nat} (hT:∀m p,T m=some p->p.1<=m) (he:∀m p,a<=m->m<N->T m=some p->a<=p.1->T' (m-a)=some (p.1-a,p.2)):∀(l:List Int) (b h:Nat) (q:Nat×Nat),b<=N->l.foldl (Xy T) (some (b,h))=some q->a<=q.1->(l.map (· + -(a:Int))).foldl (Xy T') (some (b-a,h))=some (q.1-a,q.2):=by
 intro l
 induction l with
 |nil=>intro b h q _ e _;simp at e;subst e;rfl
 |cons k l ih=>
  intro b h q o e f
  obtain ⟨p,s,t,c,d⟩:=Qa e
  have y:=hT _ _ c
  have z:=Xjz hT _ _ _ _ d
  have g:=he (b-1) p (by omega) (by omega) c (by omega)
  rw[List.map_cons,List.foldl_cons]
  have j:Xy T' (some (b-a,h)) (k+ -(a:Int))=some (p.1-a,max h p.2):=by
   simp only[Xy]
   rw[if_pos ⟨by omega,by omega⟩,show b-a-1=b-1-a by omega,g]
   rfl
  rw[j]
  exact ih _ _ _ (by omega) d f
theorem Xdr {vs:List VN} {d:Int} {a n i:Nat} (h:i<n):Xb (run vs d a n) i=X5 d (Xb vs (a+i)):=by
 unfold run
 unfold Xb
 simp[h]
theorem Xra (d:Int) (x:VN):Xz (X5 d x)=Xz x:=by
 unfold Xz Yr Zi X5
 simp
theorem Xoc {vs:List VN} {q a h:Nat} (ht:tr (Yc vs) q=some (a,h)):∀(N i:Nat),i<N->a+i<=q->∀p,tr (Yc vs) (a+i)=some p->tr (Yc (run vs (-(a:Int)) a (q+1-a))) i=some (p.1-a,p.2):=by
 intro N
 induction N with
 |zero=>intro i h;omega
 |succ N ih=>
  intro i o g p d
  have b:=Ko ht
  simp only at b
  obtain ⟨r,c,f,_⟩:=Xob _ _ _ (Nat.lt_succ_self _) ht (a+i) (by simp only;omega) g
  rw[d] at c
  simp only[Option.some.injEq] at c
  subst c
  obtain ⟨w,j,rfl⟩:=Xjy d
  have l:Yc (run vs (-(a:Int)) a (q+1-a)) i=(Yc vs (a+i)).map (· + -(a:Int)):=by
   unfold Yc
   rw[Xdr (by omega)]
   rfl
  rw[Gy,l,<-List.map_reverse]
  have:=Xt7 (T:=tr (Yc vs)) (T':=tr (Yc (run vs (-(a:Int)) a (q+1-a)))) (a:=a) (N:=a+i) (fun m p h=>Ko h)
   (fun m p f h2 h3 h4 => by
    have:=ih (m-a) (by omega) (by omega) p (by rw[show a+(m-a)=m by omega];exact h3)
    exact this) _ _ _ _ (Nat.le_refl _) j f
  rw[show a+i-a=i by omega] at this
  rw[this]
  rfl
theorem Xds {vs:List VN} (hok:okB vs=true) {m:Nat} (hm:m<vs.length):okB (Ys vs m)=true:=by
 obtain ⟨P,y,t,R⟩:=Xm hok
 obtain ⟨⟨d,z⟩,c⟩:=t m hm
 have e:Ys vs m=run vs (-(d:Int)) d (m+1-d):=by rw[Ys,c];simp[trF]
 have B:=Ko c
 simp only at B
 have g:∃h,tr (Yc vs) (vs.length-1)=some (0,h)/\h<=8:=by
  unfold okB Jo at hok
  simp only[Bool.and_eq_true] at hok
  have h:=hok.2
  cases e:tr (Yc vs) (vs.length-1) with
  |none=>simp[e] at h
  |some p=>obtain ⟨a,b⟩:=p;simp[e] at h;obtain ⟨rfl,C⟩:=h;exact ⟨b,rfl,C⟩
 obtain ⟨S,o,D⟩:=g
 obtain ⟨r,j,_,q⟩:=Xob _ _ _ (Nat.lt_succ_self _) o m (Nat.zero_le _) (by omega)
 rw[c] at j
 simp only[Option.some.injEq] at j
 subst j
 simp only at q
 have f:(Ys vs m).length=m+1-d:=by rw[e,K6]
 rw[<-Xil]
 unfold Xe4
 rw[f]
 have F:Gz (Ys vs m)=true:=by unfold Gz;rw[f];simp;omega
 have G:((List.range (m+1-d)).all fun i=>Xz (Xb (Ys vs m) i))=true:=by
  rw[List.all_eq_true]
  intro i s
  have l:=List.mem_range.1 s
  rw[e,Xdr l,Xra]
  exact (y (d+i) (by omega)).1
 have J:((List.range (m+1-d)).all fun i=>(tr (Yc (Ys vs m)) i).isSome)=true:=by
  rw[List.all_eq_true]
  intro i s
  have l:=List.mem_range.1 s
  obtain ⟨p,L⟩:=t (d+i) (by omega)
  rw[e,Xoc c (i+1) i (by omega) (by omega) p L]
  rfl
 have M:Jo (Ys vs m)=true:=by
  unfold Jo
  rw[f,e,Xoc c (m+1) (m+1-d-1) (by omega) (by omega) (d,z) (by rw[show d+(m+1-d-1)=m by omega];exact c)]
  simp
  omega
 rw[F,G,J,M]
 rfl


theorem X19 (x:List UInt8):∀y:List UInt8,Op.bytesLess x y=true↔x<y:=by
 induction x with
 |nil=>intro y;cases y<;>simp[Op.bytesLess]
 |cons a x ih=>
  intro y
  cases y with
  |nil=>simp[Op.bytesLess]
  |cons b y=>
   have h:=ih y
   rw[List.cons_lt_cons_iff,<-h]
   by_cases h1:a<b<;>by_cases h2:a=b<;>simp[Op.bytesLess,h1,h2]
theorem Xb2 (a b:ByteArray):Y2 a b=true↔a.toList<b.toList:=X19 _ _
theorem Xa6 {a b c:ByteArray} (h1:Y2 a b=true) (h2:Y2 b c=true):Y2 a c=true:=by
 rw[Xb2] at *;exact List.lt_trans h1 h2
theorem Xjd {a b:ByteArray} (h1:Y2 a b=false) (h2:a.toList≠b.toList):Y2 b a=true:=by
 have c:¬a.toList<b.toList:=fun h=>by rw[<-Xb2] at h;rw[h1] at h;cases h
 rw[Xb2]
 by_cases h:b.toList<a.toList
 ·exact h
 ·exact absurd (List.le_antisymm (List.not_lt.1 h) (List.not_lt.1 c)) h2
def Xhw (l:List ByteArray):Prop:=∀i j,i<j->j<l.length->Y2 (Xf l i) (Xf l j)=true
theorem Q7 {l:List ByteArray} (h:Qs l=true):Xhw l:=by
 unfold Qs at h
 rw[List.all_eq_true] at h
 have d:∀j,j<l.length->0<j->Y2 (Xf l (j-1)) (Xf l j)=true:=by
  intro j b g
  have:=h j (List.mem_range.2 b)
  unfold Qd at this
  simp only[Bool.and_eq_true,Bool.or_eq_true,decide_eq_true_eq] at this
  rcases this.2 with e|e
  ·omega
  ·exact e
 intro i j f b
 induction j with
 |zero=>omega
 |succ j ih=>
  have c:=d (j+1) b (by omega)
  rw[Nat.add_sub_cancel] at c
  by_cases e:i=j
  ·subst e;exact c
  ·exact Xa6 (ih (by omega) (by omega)) c
def Zz (l:List ByteArray) (key:ByteArray):Nat:=(l.takeWhile fun k=>Y2 k key).length
def Yz (l:List ByteArray) (key:ByteArray):Bool:=decide (Zz l key<l.length)&&decide ((Xf l (Zz l key)).toList=key.toList)
theorem X2a {p:ByteArray->Bool}:∀{l:List ByteArray} {i:Nat},i<=l.length->(∀j,j<i->p (Xf l j)=true)->(i<l.length->p (Xf l i)=false)->(l.takeWhile p).length=i:=by
 intro l
 induction l with
 |nil=>intro i b _ _;simp at b;subst b;rfl
 |cons a l ih=>
  intro i b c d
  cases i with
  |zero=>
   have:=d (by simp)
   simp[Xf] at this
   simp[List.takeWhile_cons,this]
  |succ i=>
   have f:=c 0 (by omega)
   simp[Xf] at f
   rw[List.takeWhile_cons,if_pos f,List.length_cons]
   rw[ih (i:=i) (by simp at b;omega) (fun j hj=>by have:=c (j+1) (by omega);simpa [Xf] using this) (fun hl=>by have:=d (by simp;omega);simpa [Xf] using this)]
theorem Xc2 {l:List ByteArray} {key:ByteArray} {i:Nat} (hi:i<=l.length) (h1:∀j,j<i->Y2 (Xf l j) key=true) (h2:i<l.length->Y2 (Xf l i) key=false):Zz l key=i:=X2a hi h1 h2
theorem Xlp {l:List ByteArray} (key:ByteArray):Zz l key<=l.length/\(∀j,j<Zz l key->Y2 (Xf l j) key=true)/\(Zz l key<l.length->Y2 (Xf l (Zz l key)) key=false):=by
 unfold Zz
 induction l with
 |nil=>exact ⟨by simp,fun j hj=>absurd hj (by simp),fun h=>absurd h (by simp)⟩
 |cons a l ih=>
  cases h:Y2 a key
  ·rw[List.takeWhile_cons,h]
   refine ⟨by simp,fun j hj=>absurd hj (by simp),fun _=> ?_⟩
   simpa [Xf] using h
  ·rw[List.takeWhile_cons,h]
   simp only[if_true,List.length_cons]
   refine ⟨by omega,fun j hj=> ?_,fun hl=> ?_⟩
   ·cases j with
    |zero=>simpa [Xf] using h
    |succ j=>have:=ih.2.1 j (by omega);simpa [Xf] using this
   ·have:=ih.2.2 (by omega);simpa [Xf] using this
theorem Xs0 {a b:ByteArray} (h:Y2 a b=true):a.toList≠b.toList:=fun e=>by
 rw[Xb2,e] at h;exact absurd h (List.lt_irrefl _)
def Gw (kind:Int) (keys:List ByteArray) (n:Nat) (x:PS):Option Nat:=
 if x.named=true then (if kind=6/\Yz keys x.key=true then some (Zz keys x.key) else none)
 else if kind=5/\x.pl<(n:Int) then some x.pl.toNat else none
def Qy (x:VN) (s:PS):Option Nat:=Gw x.kind x.keys x.kids.length s
theorem Xje {l:List ByteArray} (h:Xhw l) {key:ByteArray} {i:Nat} (hi:i<l.length) (he:(Xf l i).toList=key.toList) (hf:∀j,j<i->(Xf l j).toList≠key.toList):Yz l key=true/\Zz l key=i:=by
 have b:Zz l key=i:=Xc2 (by omega) (fun j hj=>by
   have:=h j i hj hi
   rw[Xb2] at this|-
   rw[<-he];exact this) (fun _=>by
   cases h3:Y2 (Xf l i) key
   ·rfl
   ·exact absurd he (Xs0 h3))
 refine ⟨?_,b⟩
 unfold Yz
 rw[b]
 simp[hi,he]
theorem Xlq {l:List ByteArray} {key:ByteArray} (hf:∀j,j<l.length->(Xf l j).toList≠key.toList):Yz l key=false:=by
 unfold Yz
 by_cases h:Zz l key<l.length
 ·simp[h,hf _ h]
 ·simp[h]


def X8 (L:Nat->List VN):Nat->List VN
 |0=> []
 |i+1=>X8 L i++(L i).map (X5 ((X8 L i).length:Int))
def Y7 (L:Nat->List VN):Nat->List Int
 |0=> []
 |i+1=>Y7 L i++ [((X8 L (i+1)).length:Int)-1]
def Yi (kind:Int) (keys:List ByteArray) (L:Nat->List VN) (m:Nat):List VN:=X8 L m++ [{kind:=kind,n:=0,s:=ByteArray.empty,keys:=keys,kids:=Y7 L m}]
theorem Qf (L:Nat->List VN):∀i,(Y7 L i).length=i:=by
 intro i
 induction i with
 |zero=>rfl
 |succ i ih=>simp[Y7,ih]
theorem K4 (L:Nat->List VN) (i:Nat):(X8 L (i+1)).length=(X8 L i).length+(L i).length:=by simp[X8]
theorem Xvc (L:Nat->List VN) {i j:Nat} (h:i<=j):(X8 L i).length<=(X8 L j).length:=by
 induction j with
 |zero => obtain rfl : i = 0 := by omega
          exact Nat.le_refl _
 |succ j ih=>
  rcases Nat.lt_or_ge i (j+1) with e|e
  ·have:=ih (by omega)
   rw[K4]
   omega
  ·obtain rfl:i=j+1:=by omega
   exact Nat.le_refl _
structure Duo (base:Nat) (w wr:World) (v kv:Value) (ns:List VN) (ks:List Int) (KV IV:Nat->Value):Prop where
 nest:Nest base wr v ns KV IV
 kids:wr.ownsRow base 2 1 kv ks.length (ks.map (.int .i64))
 ki:∀j,j<ns.length->∀y,kv.ownBlock=some y->(IV j).ownBlock≠some y
 frame:Below base w wr
theorem Duo.laid {base:Nat} {w wr w':World} {v v' kv:Value} {ns add:List VN} {ks:List Int} {KV IV KV' IV':Nat->Value} (h:Duo base w wr v kv ns ks KV IV) (l:Laid base wr w' v v' ns add KV IV KV' IV') (hb:base<=wr.heap.size):Duo base w w' v' kv (ns++add) ks KV' IV':=by
 refine ⟨l.1,h.kids.kept l.2.1 (Yj h.kids h.nest.row (by decide)),fun j hj y hy=> ?_,h.frame.grown l.2.1 hb (fun k hk=>(h.nest.row.lt k hk).1)⟩
 by_cases e:j<ns.length
 ·rw[(l.2.2.2.1 j e).2];exact h.ki j e y hy
 ·intro b
  have:=(l.2.2.2.2 j (by omega) (by simpa using hj)).2 y b
  have:=(h.kids.lt y hy).2
  omega
theorem Duo.kid {base:Nat} {w wr w5:World} {v kv kv':Value} {ns:List VN} {ks:List Int} {KV IV:Nat->Value} {o:Obj} {q:Int} (h:Duo base w wr v kv ns ks KV IV) (hb:base<=wr.heap.size)
  (hown:w5.ownsRow base 2 1 kv' (ks.length+1) (ks.map (.int .i64)++ [.int .i64 q])) (hg:(wr.alloc o).grownBy w5 kv.ownBlock) (hat:kv'.ownBlock=kv.ownBlock\/kv'.ownBlock=some (wr.heap.size+1)):
  Duo base w w5 v kv' ns (ks++ [q]) KV IV:=by
 have b:wr.grownBy w5 kv.ownBlock:=(World.grownBy_alloc wr o _).trans hg
 have c:∀i,i<ns.length->(IV i).ownBlock=none\/(IV i).ownBlock≠kv.ownBlock:=by
  intro i d
  cases e:kv.ownBlock with
  |none=>cases f:(IV i).ownBlock with
   |none=>exact Or.inl rfl
   |some y=>exact Or.inr (by simp)
  |some y=>exact Or.inr (h.ki i d y e)
 refine ⟨h.nest.kept b (Yj h.nest.row h.kids (by decide)) (fun i d=>Yj (h.nest.rk i d) h.kids (by decide)) c,by simpa using hown,fun j hj y hy=> ?_,h.frame.grown b hb (fun k hk=>(h.kids.lt k hk).1)⟩
 rcases hat with e|e
 ·exact h.ki j hj y (e▸hy)
 ·rw[e] at hy
  simp at hy
  intro f
  have:=((h.nest.ri j hj).lt y f).2
  omega
theorem Xa5 (B:Nat) (kind:Int) (kv0 u:Value) (keys:List ByteArray) (m:Nat) (L:Nat->List VN) (w:World) (hks:StrsAt B w kv0 keys) (hu:Uv B w u m L) (hB:B<=w.heap.size) (hm:m<=100000) (hkn:keys.length<=100000) (hn:(X8 L m).length+1<=100000) (hnear:∀i,i<m->0<(L i).length/\∀j,j<(L i).length->X1a (Xb (L i) j)):
  Calls Tryz.prog 75 #[.int .i64 kind,kv0,u] w fun e w'=>∃r KV IV,e= .returned r/\Nest w.heap.size w' r (Yi kind keys L m) KV IV/\Below w.heap.size w w':=by
 have bn:=Xa hks
 have bo:=Xa hnear
 obtain ⟨_,au,cu,rfl,bp⟩:=hu
 obtain ⟨_,_,aK,cK,rfl,T⟩:=hks
 have bq:=Xa bp
 obtain ⟨i0,br,bs,bt,bu⟩:=info_parts Kj
 obtain ⟨i1,bv,bw,bx,bz⟩:=info_parts Wh
 obtain ⟨i2,b0,b1,b2,b3⟩:=info_parts Wg
 have b4:Duo w.heap.size w ((w.alloc (.cells #[] 75)).alloc (.cells #[] 2)) (.slice (some ⟨w.heap.size,0,none⟩) 0 0) (.slice (some ⟨w.heap.size+1,0,none⟩) 0 0) (X8 L 0) (Y7 L 0) (fun _=>undef) (fun _=>undef):=by
  refine ⟨⟨?_,fun i hi=>absurd hi (by simp[X8]),fun i hi=>absurd hi (by simp[X8]),fun i j hi=>absurd hi (by simp[X8]),fun i j hi=>absurd hi (by simp[X8])⟩, ?_,fun j p=>absurd p (by simp[X8]),((Below.refl _ _).alloc (Nat.le_refl _) _).alloc (by simp) _⟩
  ·exact (World.ownsRow_lit (base:=w.heap.size) (e:=75) (size:=5) w #[] 0 (Nat.le_refl _) (by simp[maxLen]) rfl).alloc _
  ·have:=World.ownsRow_lit (base:=w.heap.size) (e:=2) (size:=1) (w.alloc (.cells #[] 75)) #[] 0 (by simp) (by simp[maxLen]) rfl
   simpa [Y7] using this
 have b5:=Xa b4
 go_enter Tryz.func75,Tryz.ntmps75
 go_wp2_with fail
 go_loopw [7,8,9] (fun o kd i wr=>∃(k:Nat) (KV IV:Nat->Value),k<=m/\i= .int .i64 k/\Duo w.heap.size w wr o kd (X8 L k) (Y7 L k) KV IV) (fun _ _ i _=>m-(intOf i).toNat)
 case atStart=>exact ⟨0,_,_,Nat.zero_le _,rfl,b5.out⟩
 case round=>
  obtain ⟨k,KV,IV,hk,rfl,d⟩:=hrel
  have t:=Xa d
  have zs:=d.frame.size
  obtain ⟨ao,co,eo⟩:=Xg d.nest.row
  obtain ⟨ai,ci,ei⟩:=Xg d.kids
  obtain ⟨M,hM⟩:∃M,(X8 L k).length=M:=⟨_,rfl⟩
  have g:=Xa hM
  rw[hM] at eo
  rw[Qf] at ei
  subst eo ei
  by_cases hlt:k<m
  ·obtain ⟨b,rfl,cn,J⟩:=bq.out (by omega)
   obtain ⟨r,b6,V⟩:=J k hlt
   have X:=(Xc t.out.frame (by omega)).trans b6
   have b7:=Xa (V.below (t.out.frame.mono hB))
   obtain ⟨_,ar,cr,rfl,_⟩:=V
   have b8:=Xa (Xvc L (show k+1<=m by omega))
   have Y:=Xa (K4 L k)
   obtain ⟨Lk,z⟩:∃Lk,(L k).length=Lk:=⟨_,rfl⟩
   have Z:=Xa z
   rw[z] at X
   have cp:M+Lk+1<=100000:=by
    have h1:=b8.out
    have h2:=Y.out
    rw[g.out,z] at h2
    omega
   have F:=Xa b7.out
   rw[z] at F
   go_wp2_with fail
   refine (Xlc B w.heap.size (.slice ao M co) (.slice ar Lk cr) (X8 L k) (L k) KV IV wr t.out.nest F.out hB zs (by rw[g.out,Z.out];omega) (bo.out k hlt).2).mono ?_
   rintro e w3 ⟨v3,ba,bb,rfl,b9⟩
   have ca:=t.out.laid b9 zs
   have C:Hid (Duo w.heap.size w w3 v3 (.slice ai k ci) (X8 L (k+1)) (Y7 L k) ba bb):=ca
   have z3:=C.out.frame.size
   obtain ⟨a3,c3,e3⟩:=Xg C.out.nest.row
   obtain ⟨N,hN⟩:∃N,(X8 L (k+1)).length=N:=⟨_,rfl⟩
   have cq:N<=100000:=by rw[<-hN,Y.out,g.out,Z.out];omega
   have cb:=Xa hN
   rw[hN] at e3
   subst e3
   have bc:=Xa C.out.kids
   rw[Qf] at bc
   have bd:Hid (Y7 L (k+1)=Y7 L k++ [(N:Int)-1]):=by rw[Hid,<-cb.out];rfl
   go_wp2_with (at_builtin;refine wpList_append_own_at _ rfl _ _ 73 rfl w.heap.size 2 i2 (.int .i64 0) 1 8 Tryz.underlying73 b0 b1 b2 b3 rfl (by decide) _ _ _ rfl (bc.out.alloc _) ⟨w3.heap.size,0,none⟩ 1 1 [.int .i64 ((N:Int)-1)] rfl rfl ?c1 ?c2 ?c3 ?c4 ?c5 ?_)
   case c1=>exact cell_one_new _ _ _
   case c2=>first|rfl|(intro u hu;simp at hu;subst hu;rfl)
   case c3=>unfold maxLen;omega
   case c4=>omega
   case c5=>first|omega|(simp;omega)
   intro cs S l c _ be
   have cc:=Xa (C.out.kid (by omega) (by rw[Qf];exact l) c (by simpa using be))
   go_wp2_with fail
   go_roundw
   case rel=>exact ⟨k+1,ba,bb,by omega,by go_num,by rw[bd.out];exact cc.out⟩
   case measure=>simp[intOf];omega
  ·obtain rfl:k=m:=by omega
   have bf:Hid ((wr.alloc (.cells #[] 9)).ownsRow w.heap.size 9 1 (.slice (some ⟨wr.heap.size,0,none⟩) 0 0) 0 []):=World.ownsRow_lit wr #[] 0 zs (by simp[maxLen]) rfl
   have bg:Hid (0<keys.length->∃ad,aK=some ad/\∀j u,(keys.map Value.string)[j]? =some u->(wr.alloc (.cells #[] 9)).cell? (ad.add j)=some u):=by
    intro hp
    obtain ⟨_,_,ct,cv,e,T⟩:=bn.out
    cases e
    obtain ⟨bk,ok,rfl,cw,cd⟩:=T hp
    refine ⟨_,rfl,fun j u p=> ?_⟩
    have bh:j<keys.length:=by have:=(List.getElem?_eq_some_iff.1 p).1;simpa using this
    rw[show (⟨bk,ok,none⟩:Addr).add j=⟨bk,ok+j,none⟩ by simp[Addr.add],Xc ((Below.refl _ wr).alloc (Nat.le_refl _) _) (by omega),Xc t.out.frame (by omega),cd j bh]
    simp[bh,Xf] at p|-
    exact p
   go_wp2_with (at_builtin;refine Yd rfl _ _ 72 rfl w.heap.size 9 i1 (.string ByteArray.empty) 1 16 Tryz.underlying72 bv bw bx bz rfl (by decide) _ 0 [] rfl bf.out aK keys.length cK (keys.map .string) rfl (by simp) bg.out ?c2 ?c3 ?c4 ?c5 ?_)
   case c2=>intro u hu;first|rfl|(obtain ⟨q,_,rfl⟩:=List.mem_map.1 hu;rfl)
   case c3=>unfold maxLen;omega
   case c4=>omega
   case c5=>first|omega|(simp;omega)
   intro vk S P ce bi
   (try simp only[Nat.zero_add,List.nil_append] at P)
   have R:wr.grownBy S none:=(World.grownBy_alloc wr _ none).andThen ce (fun j p=>Or.inl (by simp[Value.ownBlock] at p;omega))
   have nn:∀x:Option Nat,x=none\/x≠none:=fun x=>by cases x<;>simp
   have f:=t.out.nest.kept R (nn _) (fun _ _=>nn _) (fun _ _=>nn _)
   have D:=t.out.kids.kept R (nn _)
   have bj:Below w.heap.size w S:=t.out.frame.grown R zs (fun k hk=>by cases hk)
   have cf:Hid (∀j,j<(X8 L k).length->∀y,vk.ownBlock=some y->(KV j).ownBlock≠some y):=by
    intro j p y hy e
    have h1:=((t.out.nest.rk j p).lt y e).2
    rcases bi with e2|e2
    ·rw[e2] at hy;simp[Value.ownBlock] at hy;omega
    ·rw[e2] at hy;simp at hy;omega
   obtain ⟨ak,ck,cg⟩:=Xg P
   subst cg
   have bl:=Xa f
   have ch:=Xa D
   have cj:=Xa P
   have cl:=Xa bj
   have z5:=bj.size
   have G:=Xa (f.row.alloc (.cells #[.int .i64 kind, .int .i64 0, .string ⟨#[]⟩, .slice ak keys.length ck, .slice ai k ci] 75))
   rw[g.out] at G
   go_wp2_with (at_builtin;go_loud (refine wpList_append_own_at _ rfl _ _ 25 rfl w.heap.size 75 i0 zeroNode 5 80 Tryz.underlying25 br bs bt bu rfl (by decide) _ _ _ rfl G.out ⟨S.heap.size,0,none⟩ 1 1 [.int .i64 kind, .int .i64 0, .string ⟨#[]⟩, .slice ak keys.length ck, .slice ai k ci] rfl rfl ?c1 ?c2 ?c3 ?c4 ?c5 ?_))
   case c1=>exact Xoy _ _ _ _ _ _ _ (by simp)
   case c2=>intro u hu;simp at hu;rcases hu with rfl|rfl|rfl|rfl|rfl<;>rfl
   case c3=>unfold maxLen;omega
   case c4=>omega
   case c5=>simp;omega
   intro v' w6 l c _ be
   have bm:S.grownBy w6 (Value.slice ao M co).ownBlock:=(World.grownBy_alloc S _ _).trans c
   have HF:=Xa (Nest.snoc (x:={kind:=kind,n:=0,s:=⟨#[]⟩,keys:=keys,kids:=Y7 L k}) bl.out cj.out ch.out cf.out (fun j p=>t.out.ki j p) (by rw[g.out];exact l) bm)
   have cm:Hid (Below w.heap.size w w6):=cl.out.grown bm z5 (fun x hx=>(bl.out.row.lt x hx).1)
   go_wp2_with fail
   go_ret
   exact ⟨_,_,_,rfl,HF.out,cm.out⟩


theorem Xa3 {vs:List VN} (hok:okB vs=true):∃h,tr (Yc vs) (vs.length-1)=some (0,h):=by
 unfold okB Jo at hok
 simp only[Bool.and_eq_true] at hok
 have h:=hok.2
 cases e:tr (Yc vs) (vs.length-1) with
 |none=>simp[e] at h
 |some p=>obtain ⟨a,b⟩:=p;simp[e] at h;obtain ⟨rfl,_⟩:=h;exact ⟨b,rfl⟩
def Xaa (vs:List VN):VT:=Xt vs 80 (vs.length-1)
theorem Xj8 (vs:List VN) (d:Int):run vs d 0 vs.length=vs.map (X5 d):=by
 unfold run
 apply List.ext_getElem?
 intro j
 by_cases hj:j<vs.length
 ·simp[List.getElem?_range',hj,Xb]
 ·simp[hj]
theorem Xo8 {vs:List VN} (hok:okB vs=true) (sh:Nat):Yb 80 (Xaa vs) sh=vs.map (X5 (sh:Int)):=by
 obtain ⟨c,_,_,_⟩:=Xm hok
 obtain ⟨h,b⟩:=Xa3 hok
 unfold Xaa
 rw[<-We,Xa7 vs 80 (vs.length-1) sh 0 h (by omega) b,<-Xj8]
 have e:vs.length-1+1-0=vs.length:=by omega
 rw[e]
 simp
def Vp (L:Nat->List VN) (m:Nat):List VT:=(List.range m).map fun i=>Xaa (L i)
theorem Xfk (L:Nat->List VN) (m:Nat):(Vp L m).length=m:=by simp[Vp]
theorem Xo9 (L:Nat->List VN) {m j:Nat} (h:j<m):Yf (Vp L m) j=Xaa (L j):=by simp[Vp,Yf,h]
theorem X3i (L:Nat->List VN) (m:Nat) (hok:∀i,i<m->okB (L i)=true):∀k,k<=m->Xx 80 0 (Vp L m) k=X8 L k/\ksT 80 0 (Vp L m) k=Y7 L k:=by
 intro k
 induction k with
 |zero=>intro _;exact ⟨Qk _ _ _,Q0 _ _ _⟩
 |succ k ih=>
  intro f
  obtain ⟨c,d⟩:=ih (by omega)
  have b:k<(Vp L m).length:=by rw[Xfk];omega
  have e:Xx 80 0 (Vp L m) (k+1)=X8 L (k+1):=by
   rw[Zg 80 0 b,c,Xo9 L (by omega),Xo8 (hok k (by omega)),Nat.zero_add]
   rfl
  refine ⟨e, ?_⟩
  rw[Qp 80 0 b,d,e,Nat.zero_add]
  rfl
theorem Xhm (kind:Int) (keys:List ByteArray) (L:Nat->List VN) (m:Nat) (hok:∀i,i<m->okB (L i)=true):Yb 81 (.mk kind 0 ByteArray.empty keys (Vp L m)) 0=Yi kind keys L m:=by
 rw[Qt,Xfk]
 obtain ⟨b,c⟩:=X3i L m hok m (Nat.le_refl _)
 rw[b,c]
 rfl
theorem Ve {L:Nat->List VN} {m:Nat} (hok:∀i,i<m->okB (L i)=true):∀k,k<=m->(X8 L k).length<=k *80:=by
 intro k
 induction k with
 |zero=>intro _;simp[X8]
 |succ k ih=>
  intro b
  have c:=ih (by omega)
  have d:=(Xm (hok k (by omega))).1
  rw[K4]
  omega
theorem Z1 {a b:List VN} {i:Nat} (h:i<a.length):Xb (a++b) i=Xb a i:=by
 unfold Xb;rw[List.getD_eq_getElem?_getD,List.getD_eq_getElem?_getD,List.getElem?_append_left h]
theorem Zy {a b:List VN} {i:Nat} (h:a.length<=i):Xb (a++b) i=Xb b (i-a.length):=by
 unfold Xb;rw[List.getD_eq_getElem?_getD,List.getD_eq_getElem?_getD,List.getElem?_append_right h]
theorem Xiv {vs:List VN} {d:Int} {i:Nat} (h:i<vs.length):Xb (vs.map (X5 d)) i=X5 d (Xb vs i):=by
 unfold Xb;simp[h]
def X4r (x:VN):Prop:=Fits x/\x.keys.length<=80/\x.kids.length<=80/\∀j,j<x.kids.length->-10000<=Xj x.kids j/\Xj x.kids j<=10000
theorem X1l {L:Nat->List VN} {m:Nat} (hm:m<=80) (hok:∀i,i<m->okB (L i)=true) (hf:∀i,i<m->∀j,j<(L i).length->Fits (Xb (L i) j)):∀k,k<=m->∀i,i<(X8 L k).length->X4r (Xb (X8 L k) i):=by
 intro k
 induction k with
 |zero=>intro _ i d;simp[X8] at d
 |succ k ih=>
  intro t i d
  have p:=Ve hok k (by omega)
  rw[X8]
  by_cases e:i<(X8 L k).length
  ·rw[Z1 e];exact ih (by omega) i e
  ·rw[Zy (by omega)]
   rw[K4] at d
   rw[Xiv (by omega)]
   have g:i-(X8 L k).length<(L k).length:=by omega
   generalize i-(X8 L k).length=j at g
   have f:=hf k (by omega) j g
   have l:=K7 (hok k (by omega)) j g
   have y:=(Xm (hok k (by omega))).1
   have o:∀q,q<(X5 ((X8 L k).length:Int) (Xb (L k) j)).kids.length->-10000<=Xj (X5 ((X8 L k).length:Int) (Xb (L k) j)).kids q/\Xj (X5 ((X8 L k).length:Int) (Xb (L k) j)).kids q<=10000:=by
    intro q c
    have b:q<(Xb (L k) j).kids.length:=by simpa [X5] using c
    have z:=Zw l.1 b
    have s:Xj (X5 ((X8 L k).length:Int) (Xb (L k) j)).kids q=Xj (Xb (L k) j).kids q+((X8 L k).length:Int):=by
     rw[Y8 c,Y8 b];simp[X5]
    rw[s]
    omega
   exact ⟨⟨f.keysN,f.keysS,by simpa [X5] using f.kidsN,fun q c=>by have:=o q c;omega,f.size,f.klo,f.khi,f.nlo,f.nhi⟩,l.2.2,by simpa [X5] using l.2.1,o⟩
theorem Xlg (L:Nat->List VN):∀(m j:Nat),j<m->Xj (Y7 L m) j=((X8 L (j+1)).length:Int)-1:=by
 intro m
 induction m with
 |zero=>intro j b;omega
 |succ m ih=>
  intro j b
  have c:j<(Y7 L (m+1)).length:=by rw[Qf];exact b
  rw[Y8 c]
  by_cases e:j<m
  ·have:=ih j e
   rw[Y8 (by rw[Qf];exact e)] at this
   simp only[Y7]
   rw[List.getElem_append_left (by rw[Qf];exact e)]
   exact this
  ·obtain rfl:j=m:=by omega
   simp only[Y7]
   rw[List.getElem_append_right (by rw[Qf];exact Nat.le_refl _)]
   simp[Qf]
theorem Xx7 {L:Nat->List VN} {m:Nat} (hm:m<=80) (hok:∀i,i<m->okB (L i)=true) (hf:∀i,i<m->∀j,j<(L i).length->Fits (Xb (L i) j)) {kind:Int} (h1:1<=kind) (h6:kind<=6) {keys:List ByteArray} (hk:keys.length<=80) (hks:∀i,i<keys.length->(Xf keys i).size<=140737488355328):
  (Yi kind keys L m).length<=6401/\∀i,i<(Yi kind keys L m).length->X4r (Xb (Yi kind keys L m) i):=by
 have d:=Ve hok m (Nat.le_refl _)
 refine ⟨by unfold Yi;simp;omega,fun i hi=> ?_⟩
 unfold Yi at hi|-
 by_cases e:i<(X8 L m).length
 ·rw[Z1 e];exact X1l hm hok hf m (Nat.le_refl _) i e
 ·have f:i-(X8 L m).length=0:=by simp at hi;omega
  rw[Zy (by omega),f]
  have c:∀j,j<(Y7 L m).length->-10000<=Xj (Y7 L m) j/\Xj (Y7 L m) j<=10000:=by
   intro j b
   rw[Qf] at b
   rw[Xlg L m j b]
   have:=Ve hok (j+1) (by omega)
   omega
  exact ⟨⟨by show keys.length<=_;omega,hks,by show (Y7 L m).length<=_;rw[Qf];omega,fun j b=>by have:=c j b;show-9223372036854775808<=Xj (Y7 L m) j/\Xj (Y7 L m) j<=9223372036854775807;omega,by show ByteArray.empty.size<=_;decide,by show-9223372036854775808<=kind;omega,by show kind<=_;omega,by show (-9223372036854775808:Int)<=0;decide,by show (0:Int)<=9223372036854775807;decide⟩,hk,by show (Y7 L m).length<=80;rw[Qf];exact hm,c⟩


def Gd:Nat->VT->Prop
 |0,_=>False
 |f+1, .mk _ _ _ _ kids=>∀j,j<kids.length->Gd f (Yf kids j)
def Xdl (kind n:Int) (s:ByteArray) (keys:List ByteArray) (m:Nat):Bool:=Xz ⟨kind,n,s,keys,List.replicate m 0⟩
def goodT:Nat->VT->Prop
 |0,_=>False
 |f+1, .mk kind n s keys kids=>Xdl kind n s keys kids.length=true/\∀j,j<kids.length->goodT f (Yf kids j)
def hiK (F:VT->Nat) (kids:List VT):Nat->Nat
 |0=>0
 |k+1=>max (hiK F kids k) (F (Yf kids k))
def hiT:Nat->VT->Nat
 |0,_=>0
 |f+1, .mk _ _ _ _ kids=>hiK (hiT f) kids kids.length+1
theorem goodT.full:∀{f:Nat} {t:VT},goodT f t->Gd f t
 |0,_,h=>h.elim
 |f+1, .mk _ _ _ _ _,h=>fun j hj=>(h.2 j hj).full
theorem Xnn (x:VN):Xz x=Xdl x.kind x.n x.s x.keys x.kids.length:=by
 unfold Xdl Xz Yr Zi
 simp
theorem Xno (f sh:Nat) (kids:List VT) {k m:Nat} (h:k<=m) (hm:m<=kids.length):∃t,Xx f sh kids m=Xx f sh kids k++t:=by
 induction m with
 |zero => obtain rfl : k = 0 := by omega
          exact ⟨[],by simp⟩
 |succ m ih=>
  by_cases e:k=m+1
  ·subst e;exact ⟨[],by simp⟩
  ·obtain ⟨t,b⟩:=ih (by omega) (by omega)
   exact ⟨t++_,by rw[Zg f sh (by omega),b,List.append_assoc]⟩
theorem Xhb {f:Nat} {t:VT} (h:Gd f t) (sh:Nat):1<=(Yb f t sh).length:=by
 cases f with
 |zero=>exact h.elim
 |succ f=>obtain ⟨b,n,s,keys,kids⟩:=t;rw[Qt];simp
theorem X4a:∀{f:Nat} {t:VT},Gd f t->∀(vs:List VN) (sh:Nat),(∀j,j<(Yb f t sh).length->Yc vs (sh+j)=(Xb (Yb f t sh) j).kids)->tr (Yc vs) (sh+(Yb f t sh).length-1)=some (sh,hiT f t):=by
 intro f
 induction f with
 |zero=>intro t h;exact h.elim
 |succ f ih=>
  intro t h vs sh l
  obtain ⟨y,n,s,keys,kids⟩:=t
  rw[Qt] at l|-
  rw[List.length_append,List.length_cons,List.length_nil] at l|-
  have b:=l (Xx f sh kids kids.length).length (by omega)
  rw[Zy (Nat.le_refl _),Nat.sub_self] at b
  have c:Yc vs (sh+(Xx f sh kids kids.length).length)=ksT f sh kids kids.length:=b
  rw[show sh+((Xx f sh kids kids.length).length+(0+1))-1=sh+(Xx f sh kids kids.length).length by omega,Gy,c]
  have C:∀k,k<=kids.length->∀d,(ksT f sh kids k).reverse.foldl (Xy (tr (Yc vs))) (some (sh+(Xx f sh kids k).length,d))=some (sh,max d (hiK (hiT f) kids k)):=by
   intro k
   induction k with
   |zero=>intro _ d;rw[Q0,Qk];simp[hiK]
   |succ k ihk=>
    intro D d
    rw[Qp f sh (by omega),List.reverse_append,List.reverse_cons,List.reverse_nil,List.nil_append,List.cons_append,List.nil_append,List.foldl_cons]
    have z:(Xx f sh kids (k+1)).length=(Xx f sh kids k).length+(Yb f (Yf kids k) (sh+(Xx f sh kids k).length)).length:=by rw[Zg f sh (by omega),List.length_append]
    have B:=Xhb (h k (by omega)) (sh+(Xx f sh kids k).length)
    have o:=ih (h k (by omega)) vs (sh+(Xx f sh kids k).length) (fun j hj=>by
     obtain ⟨F,g⟩:=Xno f sh kids (show k+1<=kids.length by omega) (Nat.le_refl _)
     have p:=congrArg List.length g
     rw[List.length_append] at p
     have:=l ((Xx f sh kids k).length+j) (by omega)
     rw[Z1 (by omega),g,Z1 (by omega),Zg f sh (by omega),Zy (by omega)] at this
     rw[Nat.add_assoc,this,Nat.add_sub_cancel_left])
    have q:Xy (tr (Yc vs)) (some (sh+(Xx f sh kids (k+1)).length,d)) (((sh+(Xx f sh kids (k+1)).length:Nat):Int)-1)=some (sh+(Xx f sh kids k).length,max d (hiT f (Yf kids k))):=by
     unfold Xy
     simp only
     rw[if_pos ⟨by omega,trivial⟩]
     rw[show sh+(Xx f sh kids (k+1)).length-1=sh+(Xx f sh kids k).length+(Yb f (Yf kids k) (sh+(Xx f sh kids k).length)).length-1 by omega,o]
     rfl
    rw[q,ihk (by omega),hiK]
    congr 2
    omega
  rw[C _ (Nat.le_refl _) 0]
  simp[hiT]
theorem Xk1 (f sh:Nat) (kids:List VT) (P:VN->Prop):∀k,k<=kids.length->((∀j,j<(Xx f sh kids k).length->P (Xb (Xx f sh kids k) j))↔∀i,i<k->∀j,j<(Yb f (Yf kids i) (sh+(Xx f sh kids i).length)).length->P (Xb (Yb f (Yf kids i) (sh+(Xx f sh kids i).length)) j)):=by
 intro k
 induction k with
 |zero=>intro _;rw[Qk];simp
 |succ k ih=>
  intro g
  have b:=ih (by omega)
  rw[Zg f sh (by omega),List.length_append]
  constructor
  ·intro h i d j c
   by_cases e:i=k
   ·subst e
    have:=h ((Xx f sh kids i).length+j) (by omega)
    rw[Zy (by omega),Nat.add_sub_cancel_left] at this
    exact this
   ·exact b.1 (fun j c=>by have:=h j (by omega);rw[Z1 c] at this;exact this) i (by omega) j c
  ·intro h j c
   by_cases e:j<(Xx f sh kids k).length
   ·rw[Z1 e]
    exact b.2 (fun i d=>h i (by omega)) j e
   ·rw[Zy (by omega)]
    exact h k (by omega) _ (by omega)
theorem Xwe:∀{f:Nat} {t:VT},Gd f t->∀sh,((∀j,j<(Yb f t sh).length->Xz (Xb (Yb f t sh) j)=true)↔goodT f t):=by
 intro f
 induction f with
 |zero=>intro t h;exact h.elim
 |succ f ih=>
  intro t h sh
  obtain ⟨b,n,s,keys,kids⟩:=t
  rw[Qt,List.length_append,List.length_cons,List.length_nil]
  have d:Xz (Xb (Xx f sh kids kids.length++ [{kind:=b,n:=n,s:=s,keys:=keys,kids:=ksT f sh kids kids.length}]) (Xx f sh kids kids.length).length)=Xdl b n s keys kids.length:=by
   rw[Zy (Nat.le_refl _),Nat.sub_self]
   have:=Xnn {kind:=b,n:=n,s:=s,keys:=keys,kids:=ksT f sh kids kids.length}
   rw[Xcr f sh kids (Nat.le_refl _)] at this
   exact this
  have g:=Xk1 f sh kids (fun x=>Xz x=true) kids.length (Nat.le_refl _)
  constructor
  ·intro c
   refine ⟨by rw[<-d];exact c _ (by omega),fun i hi=> ?_⟩
   refine (ih (h i hi) (sh+(Xx f sh kids i).length)).1 ?_
   exact g.1 (fun j hj'=>by have:=c j (by omega);rw[Z1 hj'] at this;exact this) i hi
  ·rintro ⟨l,o⟩ j c
   by_cases e:j<(Xx f sh kids kids.length).length
   ·rw[Z1 e]
    exact g.2 (fun i hi=>(ih (h i hi) _).2 (o i hi)) j e
   ·obtain rfl:j=(Xx f sh kids kids.length).length:=by omega
    rw[d];exact l
theorem Xwf {f:Nat} {t:VT} (h:Gd f t):okB (Yb f t 0)=true↔(Yb f t 0).length<=80/\goodT f t/\hiT f t<=8:=by
 have g:=Xhb h 0
 have d:=X4a h (Yb f t 0) 0 (fun j hj=>by rw[Nat.zero_add];rfl)
 rw[Nat.zero_add] at d
 have o:=Xwe h 0
 rw[<-Xil]
 unfold Xe4
 have l:((List.range (Yb f t 0).length).all fun i=>(tr (Yc (Yb f t 0)) i).isSome)=true:=by
  simp only[List.all_eq_true,List.mem_range]
  intro i s
  obtain ⟨q,p⟩:=Xj2 _ _ d i (by simp) (by omega)
  rw[p];rfl
 rw[l]
 unfold Jo Gz
 rw[d]
 simp only[Bool.and_eq_true,decide_eq_true_eq,List.all_eq_true,List.mem_range,true_and]
 rw[o]
 constructor
 ·rintro ⟨⟨⟨_,a⟩,b⟩,c⟩;exact ⟨a,b,c⟩
 ·rintro ⟨a,b,c⟩;exact ⟨⟨⟨g,a⟩,b⟩,c⟩


theorem Xx3 (a b:Int) (x:VN):X5 a (X5 b x)=X5 (a+b) x:=by
 unfold X5
 simp only[List.map_map]
 congr 1
 apply List.map_congr_left
 intro y _
 simp only[Function.comp]
 omega
theorem Xus (x:VN):X5 0 x=x:=by
 unfold X5
 cases x
 simp
theorem Xut:∀(f:Nat) (t:VT) (sh:Nat),Yb f t sh=(Yb f t 0).map (X5 (sh:Int)):=by
 intro f
 induction f with
 |zero=>intro t sh;rfl
 |succ f ih=>
  intro t sh
  obtain ⟨d,n,s,keys,kids⟩:=t
  have g:∀k,k<=kids.length->Xx f sh kids k=(Xx f 0 kids k).map (X5 (sh:Int))/\ksT f sh kids k=(ksT f 0 kids k).map (· +(sh:Int)):=by
   intro k
   induction k with
   |zero=>intro _;rw[Qk,Qk,Q0,Q0];exact ⟨rfl,rfl⟩
   |succ k ihk=>
    intro g
    obtain ⟨b,c⟩:=ihk (by omega)
    have l:(Xx f sh kids k).length=(Xx f 0 kids k).length:=by rw[b,List.length_map]
    have j:Xx f sh kids (k+1)=(Xx f 0 kids (k+1)).map (X5 (sh:Int)):=by
     rw[Zg f sh (by omega),Zg f 0 (by omega),List.map_append,b,List.length_map,ih _ (sh+(Xx f 0 kids k).length),ih _ (0+(Xx f 0 kids k).length),List.map_map]
     congr 1
     apply List.map_congr_left
     intro x _
     simp only[Function.comp,Xx3]
     congr 1
     omega
    refine ⟨j, ?_⟩
    rw[Qp f sh (by omega),Qp f 0 (by omega),List.map_append,c,j,List.length_map]
    congr 1
    simp only[List.map_cons,List.map_nil,List.cons.injEq,and_true]
    omega
  obtain ⟨b,c⟩:=g _ (Nat.le_refl _)
  rw[Qt,Qt,List.map_append,b,c]
  rfl
theorem X3f (f:Nat) (kids:List VT):∀k,k<=kids.length->Xx f 0 kids k=X8 (fun i=>Yb f (Yf kids i) 0) k/\ksT f 0 kids k=Y7 (fun i=>Yb f (Yf kids i) 0) k:=by
 intro k
 induction k with
 |zero=>intro _;exact ⟨Qk _ _ _,Q0 _ _ _⟩
 |succ k ih=>
  intro g
  obtain ⟨c,d⟩:=ih (by omega)
  have b:Xx f 0 kids (k+1)=X8 (fun i=>Yb f (Yf kids i) 0) (k+1):=by
   rw[Zg f 0 (by omega),X8,c,Nat.zero_add,Xut f _ (X8 _ k).length]
  refine ⟨b, ?_⟩
  rw[Qp f 0 (by omega),Y7,d,b,Nat.zero_add]
theorem Xx4:∀{f g:Nat} {t:VT},Gd f t->f<=g->∀sh,Yb g t sh=Yb f t sh:=by
 intro f
 induction f with
 |zero=>intro g t h;exact h.elim
 |succ f ih=>
  intro g t h o sh
  obtain ⟨g,rfl⟩:∃g',g=g'+1:=⟨g-1,by omega⟩
  obtain ⟨d,n,s,keys,kids⟩:=t
  have j:∀k,k<=kids.length->Xx g sh kids k=Xx f sh kids k/\ksT g sh kids k=ksT f sh kids k:=by
   intro k
   induction k with
   |zero=>intro _;rw[Qk,Qk,Q0,Q0];exact ⟨rfl,rfl⟩
   |succ k ihk=>
    intro j
    obtain ⟨b,c⟩:=ihk (by omega)
    have l:Xx g sh kids (k+1)=Xx f sh kids (k+1):=by rw[Zg g sh (by omega),Zg f sh (by omega),b,ih (h k (by omega)) (by omega)]
    exact ⟨l,by rw[Qp g sh (by omega),Qp f sh (by omega),c,l]⟩
  obtain ⟨b,c⟩:=j _ (Nat.le_refl _)
  rw[Qt,Qt,b,c]
theorem X4q {F:VT->Nat} {kids:List VT}:∀{m j:Nat},j<m->F (Yf kids j)<=hiK F kids m:=by
 intro m
 induction m with
 |zero=>intro j h;omega
 |succ m ih=>
  intro j h
  rw[hiK]
  by_cases e:j=m
  ·subst e;omega
  ·have:=ih (j:=j) (by omega);omega
theorem Xx5 {F:VT->Nat} {kids:List VT} {h:Nat}:∀{m:Nat},(∀j,j<m->F (Yf kids j)<=h)->hiK F kids m<=h:=by
 intro m
 induction m with
 |zero=>intro _;simp[hiK]
 |succ m ih=>
  intro b
  rw[hiK]
  have:=ih (fun j h=>b j (by omega))
  have:=b m (by omega)
  omega


theorem V0 {vs:List VN} (hok:okB vs=true):∀f i,i<vs.length->i<f->goodT f (Xt vs f i):=by
 intro f
 induction f with
 |zero=>intro i _ h;omega
 |succ f ih=>
  intro i b g
  obtain ⟨_,c,_,_⟩:=Xm hok
  rw[Xt]
  refine ⟨?_,fun j hj=> ?_⟩
  ·have:=(c i b).1
   rw[Xnn] at this
   rw[List.length_map]
   exact this
  ·rw[List.length_map] at hj
   have d:=Zw (c i b).2 hj
   rw[G7 hj]
   exact ih _ (by omega) (by omega)
theorem X46 {vs:List VN} (hok:okB vs=true):(Yb vs.length (Xt vs vs.length (vs.length-1)) 0).length=vs.length:=by
 obtain ⟨c,_⟩:=Xm hok
 obtain ⟨h,b⟩:=Xa3 hok
 rw[<-We,Xa7 vs vs.length (vs.length-1) 0 0 h (by omega) b]
 unfold run
 rw[List.length_map,List.length_range']
 omega
theorem Ku {vs:List VN} (hok:okB vs=true):Yb vs.length (Xt vs vs.length (vs.length-1)) 0=vs:=by
 obtain ⟨c,_⟩:=Xm hok
 obtain ⟨h,b⟩:=Xa3 hok
 rw[<-We,Xa7 vs vs.length (vs.length-1) 0 0 h (by omega) b]
 rw[show vs.length-1+1-0=vs.length by omega,show (((0:Nat):Int)-((0:Nat):Int))=0 by omega,Xj8]
 have:(X5 0)=id:=by funext x;exact Xus x
 rw[this,List.map_id]
theorem X4g {f sh:Nat} {kids:List VT} {vs:List VN} {x:VN} (hk:∀j,j<(Xx f sh kids kids.length++ [x]).length->Xb vs (sh+j)=Xb (Xx f sh kids kids.length++ [x]) j) {k:Nat} (hkl:k<kids.length):
  ∀j,j<(Yb f (Yf kids k) (sh+(Xx f sh kids k).length)).length->Xb vs (sh+(Xx f sh kids k).length+j)=Xb (Yb f (Yf kids k) (sh+(Xx f sh kids k).length)) j:=by
 intro j g
 have d:(Xx f sh kids (k+1)).length=(Xx f sh kids k).length+(Yb f (Yf kids k) (sh+(Xx f sh kids k).length)).length:=by rw[Zg f sh hkl,List.length_append]
 obtain ⟨l,b⟩:=Xno f sh kids (show k+1<=kids.length by omega) (Nat.le_refl _)
 have c:=congrArg List.length b
 rw[List.length_append] at c
 have:=hk ((Xx f sh kids k).length+j) (by rw[List.length_append];omega)
 rw[Z1 (by omega),b,Z1 (by omega),Zg f sh hkl,Zy (by omega)] at this
 rw[Nat.add_assoc,this,Nat.add_sub_cancel_left]
theorem Xe9:∀{f:Nat} {t:VT},Gd f t->∀(vs:List VN) (sh g:Nat),f<=g->(∀j,j<(Yb f t sh).length->Xb vs (sh+j)=Xb (Yb f t sh) j)->Xt vs g (sh+(Yb f t sh).length-1)=t:=by
 intro f
 induction f with
 |zero=>intro t h;exact h.elim
 |succ f ih=>
  intro t h vs sh g y l
  obtain ⟨g,rfl⟩:∃k,g=k+1:=⟨g-1,by omega⟩
  obtain ⟨d,n,s,keys,kids⟩:=t
  rw[Qt] at l|-
  have b:=l (Xx f sh kids kids.length).length (by rw[List.length_append,List.length_cons];omega)
  rw[Zy (Nat.le_refl _),Nat.sub_self] at b
  have c:Xb vs (sh+(Xx f sh kids kids.length).length)={kind:=d,n:=n,s:=s,keys:=keys,kids:=ksT f sh kids kids.length}:=b
  rw[List.length_append,List.length_cons,List.length_nil,show sh+((Xx f sh kids kids.length).length+(0+1))-1=sh+(Xx f sh kids kids.length).length by omega,Xt,c]
  have p:∀k,k<=kids.length->(ksT f sh kids k).map (fun x=>Xt vs g x.toNat)=kids.take k:=by
   intro k
   induction k with
   |zero=>intro _;rw[Q0];rfl
   |succ k ihk=>
    intro q
    have o:(Xx f sh kids (k+1)).length=(Xx f sh kids k).length+(Yb f (Yf kids k) (sh+(Xx f sh kids k).length)).length:=by rw[Zg f sh (by omega),List.length_append]
    rw[Qp f sh (by omega),List.map_append,ihk (by omega),Xdc (by omega)]
    have e:=ih (h k (by omega)) vs (sh+(Xx f sh kids k).length) g (by omega) (X4g l (by omega))
    congr 1
    rw[List.map_cons,List.map_nil,show (((sh+(Xx f sh kids (k+1)).length:Nat):Int)-1).toNat=sh+(Xx f sh kids k).length+(Yb f (Yf kids k) (sh+(Xx f sh kids k).length)).length-1 by omega,e]
  dsimp only
  rw[p _ (Nat.le_refl _),List.take_length]


theorem Xaw (B:Nat) (v1 v2:Value) (m:Nat) (L:Nat->List VN) (w:World) (h1:Uv B w v1 m L) (h2:Uv B w v2 m L) (hB:B<=w.heap.size):
  Calls Tryz.prog 15 #[v1,v2] w fun e w'=>e= .returned (.bool true)/\Below w.heap.size w w':=by
 obtain ⟨R,S,o,rfl,d⟩:=h1
 obtain ⟨_,T,p,rfl,f⟩:=h2
 have z:=Xa d
 have C:=Xa f
 clear d f
 have D:((m:Int) !=(m:Int))=false:=by simp
 go_enter Tryz.func15,Tryz.ntmps15
 go_wp2_with fail
 go_loopw [5] (fun i wr=>∃k:Nat,k<=m/\i= .int .i64 k/\Below w.heap.size w wr) (fun i _=>m-(intOf i).toNat)
 case atStart=>exact ⟨0,Nat.zero_le _,rfl,Below.refl _ _⟩
 case round=>
  obtain ⟨k,V,rfl,b⟩:=hrel
  have c:=b.size
  by_cases hlt:k<m
  ·obtain ⟨X,rfl,F,g⟩:=z.out (by omega)
   obtain ⟨Y,rfl,j,l⟩:=C.out (by omega)
   obtain ⟨Z,q,s⟩:=g k hlt
   obtain ⟨r2,t,y⟩:=l k hlt
   have c1:=(Xc b (by omega)).trans q
   have c2:=(Xc b (by omega)).trans t
   have G:=Xa (s.below (b.mono hB))
   have J:=Xa (y.below (b.mono hB))
   obtain ⟨_,q1,p1,rfl,_⟩:=s
   obtain ⟨_,q2,p2,rfl,_⟩:=y
   clear g l q t
   go_wp2_with fail
   go_region_with (go_at_call 17;refine (Xbo B _ _ (L k) _ ?_ ?_ ?_).mono ?_;exact G.out.below (W9 rfl rfl rfl rfl);exact J.out.below (W9 rfl rfl rfl rfl);exact (by simp;omega);rintro e M ⟨rfl,P⟩)
   all_goals
    have j:Below w.heap.size w M:=b.drew.trans (P.mono (by simpa using c))
    go_wp2_with fail
    go_roundw
    case rel=>exact ⟨k+1,by omega,by go_num,j⟩
    case measure=>simp[intOf];omega
  ·go_wp2_with fail
   go_ret
   exact ⟨rfl,b⟩


def J4 (L:Nat->List VN):Nat->Nat
 |0=>1
 |i+1=>off (Jz (L i)) (J0 (L i)) (J4 L i) (L i).length
theorem X3c {vs:List VN} (h:Few vs) (k:Nat):∀i,i<=vs.length->off (Jz vs) (J0 vs) k i<=k+i *163:=by
 intro i
 induction i with
 |zero=>intro _;simp[off]
 |succ i ih=>
  intro b
  have c:=ih (by omega)
  have d:=h.2 i (by omega)
  rw[off]
  unfold Jz J0 at *
  omega
theorem Xj6 {L:Nat->List VN} {m:Nat} (h:∀i,i<m->Few (L i)):∀i,i<=m->1<=J4 L i/\J4 L i<=1+i *13040:=by
 intro i
 induction i with
 |zero=>intro _;simp[J4]
 |succ i ih=>
  intro c
  have d:=ih (by omega)
  have b:=h i (by omega)
  have f:=X3c b (J4 L i) (L i).length (Nat.le_refl _)
  have g:=Xwm (Jz (L i)) (J0 (L i)) (J4 L i) (L i).length
  have j:=b.1
  rw[J4]
  omega
def HRow (w:World) (r:Value) (vs:List VN) (K I:Nat->Value) (k:Nat):Prop:=
 ∀j,j<vs.length->HNode w (blk r) j (Jz vs j) (J0 vs j) (blk (K j)) (blk (I j)) (off (Jz vs) (J0 vs) k j)
theorem HRow.below {w w':World} {r:Value} {vs:List VN} {K I:Nat->Value} {k:Nat} (h:HRow w r vs K I k) (hb:Below w.heap.size w w'):HRow w' r vs K I k:=fun j hj=>(h j hj).below hb
theorem HRow.low {base lo:Nat} {w w' W:World} {r:Value} {vs:List VN} {K I:Nat->Value} {k:Nat} (h:HRow w r vs K I k) (hn:Nest base W r vs K I) (hin:∀x,Uu r vs.length K I x->x<lo) (hb:Below lo w w'):HRow w' r vs K I k:=by
 intro j b
 refine (h j b).keep hb.size (fun q _=> ?_) (fun hp q=> ?_) (fun hp q=> ?_)
 ·exact Xc hb (hin _ (Or.inl (Xcv hn.row (by omega))))
 ·exact Xc hb (hin _ (Or.inr ⟨j,b,Or.inl (Xcv (hn.rk j b) hp)⟩))
 ·exact Xc hb (hin _ (Or.inr ⟨j,b,Or.inr (Xcv (hn.ri j b) hp)⟩))
theorem Xxv {P:Nat->Prop} {w w':World} {base e s n:Nat} {v:Value} {xs:List Value} (h:w.ownsRow base e s v n xs) (ho:Only P w w') (hP:∀x,P x->v.ownBlock≠some x):w'.ownsRow base e s v n xs:=by
 refine ⟨h.1, ?_⟩
 rcases h.2 with hn|⟨g,cap,cur,rfl,hg,hgg,rest⟩
 ·exact .inl hn
 ·exact .inr ⟨g,cap,cur,rfl,hg,(ho.2 g (h.lt g rfl).2 (fun p=>hP g p rfl)).trans hgg,rest⟩
structure Held2 (w:World) (base:Nat) (v:Value) (m:Nat) (L:Nat->List VN) (rs:Nat->Value) (KV IV:Nat->Nat->Value):Prop where
 row:w.ownsRow base 25 1 v m ((List.range m).map rs)
 held:∀i,i<m->HRow w (rs i) (L i) (KV i) (IV i) (J4 L i)
theorem Held2.below {w w':World} {base:Nat} {v:Value} {m:Nat} {L:Nat->List VN} {rs:Nat->Value} {KV IV:Nat->Nat->Value} (h:Held2 w base v m L rs KV IV) (hb:Below w.heap.size w w'):Held2 w' base v m L rs KV IV:=
 ⟨Ql h.row hb (fun x hx=>(h.row.lt x hx).2),fun i hi=>(h.held i hi).below hb⟩
theorem Xiq (base:Nat) (v:Value) (m:Nat) (L:Nat->List VN) (rs:Nat->Value) (KV IV:Nat->Nat->Value) (lo:Nat->Nat) (w:World) (h:Rows2 base w v m L rs KV IV lo) (hm:m<=80) (hf:∀i,i<m->Few (L i)):
  Calls Tryz.prog 20 #[v, .int .i64 1] w fun e w'=>e= .returned (.int .i64 (J4 L m:Nat))/\Held2 w' base v m L rs KV IV/\Below base w w':=by
 have H:=Xa h
 have T:=Xa hf
 obtain ⟨a,c,e⟩:=Xg h.row
 subst e
 clear h hf
 go_enter Tryz.func20,Tryz.ntmps20
 go_wp2_with fail
 go_loopw [1,5] (fun q i wr=>∃k:Nat,k<=m/\q= .int .i64 (J4 L k:Nat)/\i= .int .i64 k/\Below base w wr/\wr.ownsRow base 25 1 (.slice a m c) m ((List.range m).map rs)/\(∀j,k<=j->j<m->Nest (lo j) wr (rs j) (L j) (KV j) (IV j))/\(∀j,j<k->HRow wr (rs j) (L j) (KV j) (IV j) (J4 L j))) (fun _ i _=>m-(intOf i).toNat)
 case atStart=>exact ⟨0,Nat.zero_le _,rfl,rfl,Below.refl _ _,H.out.row,fun j _ S=>H.out.nest j S,fun j S=>absurd S (by omega)⟩
 case round=>
  obtain ⟨k,V,rfl,rfl,b,t,d,f⟩:=hrel
  have G:=Xa t
  have HN:=Xa d
  have HH:=Xa f
  have hs:=b.size
  clear t d f
  have ob:=Xj6 T.out k V
  by_cases hlt:k<m
  ·obtain ⟨g,bh,e,_,bi⟩:=G.out.form (by omega)
   cases e
   have X:=HN.out k (Nat.le_refl _) hlt
   have y:=Xa X
   obtain ⟨ak,ck,R⟩:=Xg X.row
   have z:wr.cell? ⟨g,k,none⟩=some (rs k):=by rw[G.out.cellAt k (by omega)];simp[hlt]
   obtain ⟨B,p⟩:∃B,(L k).length=B:=⟨_,rfl⟩
   rw[p] at R
   rw[R] at z
   have C:=Xa R
   have s:=Xa p
   have bg:B<=80:=by rw[<-p];exact (T.out k hlt).1
   have Y:lo k<=wr.heap.size:=by have:=H.out.mono k m (by omega) (Nat.le_refl _);have:=H.out.top;omega
   have Z:=Xa (Nest.mark (by rw[<-C.out];exact y.out) s.out (T.out k hlt))
   have J:Hid (J4 L (k+1)=off (Jz (L k)) (J0 (L k)) (J4 L k) B):=by rw[Hid,<-s.out];rfl
   clear X R p
   have ba:Hid (∃o,J4 L k=o):=⟨_,rfl⟩
   obtain ⟨o,ho⟩:=ba.out
   rw[ho] at ob J|-
   have bb:=Xa ho
   clear ho
   go_wp2_with fail
   refine (Wl (lo k) _ B ck o ak _ _ _ _ wr Z.out Y (by omega) (by omega) (by omega)).mono ?_
   rintro e w3 ⟨rfl,M,l,D⟩
   rw[<-J.out]
   have P:Hid (∀x,Xaj (blk (.slice ak B ck)) B (Jz (L k)) (J0 (L k)) (fun i=>blk (KV k i)) (fun i=>blk (IV k i)) x->Uu (rs k) (L k).length (KV k) (IV k) x):=by
    intro x F
    apply y.out.marked
    rw[C.out,s.out]
    exact F
   have bc:=Xa (b.trans (D.mono (H.out.low k V)))
   have bd:=Xa (Xxv G.out l (fun x F=>y.out.far G.out (P.out x F)))
   have be:Hid (∀j,k+1<=j->j<m->Nest (lo j) w3 (rs j) (L j) (KV j) (IV j)):=fun j h1 h2=>
    (HN.out j (by omega) h2).from ((From.refl (lo j) wr).only l (fun x F=>Nat.lt_of_lt_of_le (H.out.inn k hlt x (P.out x F)) (H.out.mono (k+1) j h1 (by omega))))
   have bf:Hid (∀j,j<k+1->HRow w3 (rs j) (L j) (KV j) (IV j) (J4 L j)):=by
    intro j S
    by_cases e:j=k
    ·subst e
     intro q hq
     rw[C.out,bb.out]
     exact M q (by rw[<-s.out];exact hq)
    ·exact (HH.out j (by omega)).low (H.out.nest j (by omega)) (fun x F=>Nat.lt_of_lt_of_le (H.out.inn j (by omega) x F) (H.out.mono (j+1) k (by omega) V)) D
   clear M l D
   go_wp2_with fail
   go_roundw
   case rel=>exact ⟨k+1,by omega,rfl,by go_num,bc.out,bd.out,be.out,bf.out⟩
   case measure=>simp[intOf];omega
  ·obtain rfl:k=m:=by omega
   go_wp2_with fail
   go_ret
   exact ⟨rfl,⟨G.out,HH.out⟩,b⟩
theorem Xcc (base:Nat) (v:Value) (m:Nat) (L:Nat->List VN) (rs:Nat->Value) (KV IV:Nat->Nat->Value) (lo:Nat->Nat) (w W:World) (hW:Rows2 base W v m L rs KV IV lo) (h:Held2 w base v m L rs KV IV) (hm:m<=80) (hf:∀i,i<m->Few (L i)):
  Calls Tryz.prog 21 #[v, .int .i64 1] w fun e w'=>e= .returned (.int .i64 (J4 L m:Nat))/\Below w.heap.size w w':=by
 have H:=Xa h
 have p:=Xa hf
 have V:=Xa hW
 obtain ⟨a,c,e⟩:=Xg h.row
 subst e
 clear h hf hW
 go_enter Tryz.func21,Tryz.ntmps21
 go_wp2_with fail
 go_loopw [1,5] (fun q i wr=>∃k:Nat,k<=m/\q= .int .i64 (J4 L k:Nat)/\i= .int .i64 k/\Below w.heap.size w wr) (fun _ i _=>m-(intOf i).toNat)
 case atStart=>exact ⟨0,Nat.zero_le _,rfl,rfl,Below.refl _ _⟩
 case round=>
  obtain ⟨k,X,rfl,rfl,b⟩:=hrel
  have F:=Xa (H.out.below b)
  have Y:=b.size
  have Z:=Xj6 p.out k X
  by_cases hlt:k<m
  ·obtain ⟨g,ba,e,_,bb⟩:=F.out.row.form (by omega)
   cases e
   have s:=Xa (V.out.nest k hlt)
   obtain ⟨C,G,D⟩:=Xg s.out.row
   have l:wr.cell? ⟨g,k,none⟩=some (rs k):=by rw[F.out.row.cellAt k (by omega)];simp[hlt]
   obtain ⟨d,f⟩:∃d,(L k).length=d:=⟨_,rfl⟩
   rw[f] at D
   rw[D] at l
   have t:=Xa D
   have j:=Xa f
   have S:d<=80:=by rw[<-f];exact (p.out k hlt).1
   have J:Hid (0<d->C=some ⟨blk (.slice C d G),0,none⟩):=fun hp=>(Nest.mark (by rw[<-t.out];exact s.out) j.out (p.out k hlt) hp).1
   have y:Hid (J4 L (k+1)=off (Jz (L k)) (J0 (L k)) (J4 L k) d):=by rw[Hid,<-j.out];rfl
   have M:Hid (∀i,i<d->Jz (L k) i<=1048576/\J0 (L k) i<=1048576):=fun i hi=>by
    have:=(p.out k hlt).2 i (by rw[j.out];exact hi)
    unfold Jz J0
    omega
   have z:Hid (∀i,i<d->HNode wr (blk (.slice C d G)) i (Jz (L k) i) (J0 (L k) i) (blk (KV k i)) (blk (IV k i)) (off (Jz (L k)) (J0 (L k)) (J4 L k) i)):=fun i hi=>by
    have:=F.out.held k hlt i (by rw[j.out];exact hi)
    rw[t.out] at this
    exact this
   clear D f
   have P:Hid (∃o,J4 L k=o):=⟨_,rfl⟩
   obtain ⟨o,T⟩:=P.out
   have bc:=Xj6 p.out (k+1) (by omega)
   rw[T] at Z y z|-
   clear T
   go_wp2_with fail
   refine (Xjt _ d G o C _ _ (fun i=>blk (KV k i)) (fun i=>blk (IV k i)) wr J.out (by omega) M.out (by omega) (by omega) z.out).mono ?_
   rintro e w3 ⟨rfl,B⟩
   rw[<-y.out]
   have R:=Xa (b.trans (B.mono Y))
   have bd:¬((J4 L (k+1):Int)<0):=by omega
   clear B
   go_wp2_with fail
   go_roundw
   case rel=>exact ⟨k+1,by omega,rfl,by go_num,R.out⟩
   case measure=>simp[intOf];omega
  ·obtain rfl:k=m:=by omega
   go_wp2_with fail
   go_ret
   exact ⟨rfl,b⟩
end Go.Proofs.YtdjddneidbddpaaGreatDoor
