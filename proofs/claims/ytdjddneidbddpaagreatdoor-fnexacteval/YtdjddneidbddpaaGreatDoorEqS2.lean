import Derived.Test.YtdjddneidbddpaaGreatDoorIMinA
import Derived.Test.YtdjddneidbddpaaGreatDoorByP
import Derived.Test.YtdjddneidbddpaaGreatDoorEq
namespace Go.Proofs.YtdjddneidbddpaaGreatDoor
set_option linter.unusedSectionVars false
set_option maxHeartbeats 3200000
open Go.RowKit
set_option linter.unusedSimpArgs false
set_option linter.unusedVariables false
inductive VT where
 |mk (kind n:Int) (s:ByteArray) (keys:List ByteArray) (kids:List VT)
def VT.zero:VT:= .mk 0 0 ByteArray.empty [] []
def Yg (l:List VT) (j:Nat):VT:=l.getD j VT.zero
def Jb (B:Nat) (w:World) (it:Value) (n:Nat) (P:Nat->Value->Prop):Prop:=
 n<=100000/\∃a cap,it= .slice a n cap/\(0<n->∃b,a=some ⟨b,0,none⟩/\b<B/\∀j,j<n->∃t x,w.cell? ⟨b,j,none⟩=some (.iface t x)/\P j (.iface t x))
def TreeAt (B:Nat) (w:World):Nat->VT->Value->Prop
 |0,_,_=>False
 | f + 1, .mk kind n s keys kids, v =>
  (kind=1/\n=0/\s=ByteArray.empty/\keys= []/\kids= []/\v= .iface 160 (.agg #[]))\/
  (kind=2/\s=ByteArray.empty/\keys= []/\kids= []/\v= .iface 113 (.agg #[.int .i64 n]))\/
  (kind=3/\s=ByteArray.empty/\keys= []/\kids= []/\v= .iface 114 (.agg #[.int .i64 n]))\/
  (kind=4/\n=0/\keys= []/\kids= []/\v= .iface 116 (.agg #[.string s]))\/
  (kind=5/\n=0/\s=ByteArray.empty/\keys= []/\∃it,v= .iface 158 (.agg #[it])/\Jb B w it kids.length (fun j u=>TreeAt B w f (Yg kids j) u))\/
  (kind=6/\n=0/\s=ByteArray.empty/\∃ks it,v= .iface 118 (.agg #[ks,it])/\StrsAt B w ks keys/\Jb B w it kids.length (fun j u=>TreeAt B w f (Yg kids j) u))
theorem TreeAt.keep {B B':Nat} {w w':World} (hk:∀k,k<B->w'.heap[k]? =w.heap[k]?) (hB:B<=B'):∀{f:Nat} {t:VT} {v:Value},TreeAt B w f t v->TreeAt B' w' f t v:=by
 intro f
 induction f with
 |zero=>intro t v h;exact h.elim
 | succ f ih =>
  intro t v h
  obtain ⟨q,n,s,keys,kids⟩:=t
  have y:∀b j,b<B->w'.cell? ⟨b,j,none⟩=w.cell? ⟨b,j,none⟩:=fun b j hb=>World.cell?_of_block (hk b hb)
  have d:∀c,Jb B w c kids.length (fun j u=>TreeAt B w f (Yg kids j) u)->Jb B' w' c kids.length (fun j u=>TreeAt B' w' f (Yg kids j) u):=by
   rintro c ⟨z,a,o,e,C⟩
   refine ⟨z,a,o,e,fun hn=> ?_⟩
   obtain ⟨b,D,g,l⟩:=C hn
   refine ⟨b,D,by omega,fun j hj=> ?_⟩
   obtain ⟨t,x,p,F⟩:=l j hj
   exact ⟨t,x,(y b j g).trans p,ih F⟩
  rcases h with h|h|h|h|⟨h1,g,l,h4,c,e,hi⟩|⟨h1,g,l,ks,c,e,hs,hi⟩
  ·exact Or.inl h
  ·exact Or.inr (Or.inl h)
  ·exact Or.inr (Or.inr (Or.inl h))
  ·exact Or.inr (Or.inr (Or.inr (Or.inl h)))
  ·exact Or.inr (Or.inr (Or.inr (Or.inr (Or.inl ⟨h1,g,l,h4,c,e,d c hi⟩))))
  ·exact Or.inr (Or.inr (Or.inr (Or.inr (Or.inr ⟨h1,g,l,ks,c,e,(hs.keep (lo:=B) (B:=B) (fun k _ hk'=>hk k hk') (Nat.le_refl _)).wide hB,d c hi⟩))))
def Zq (F:VT->Nat->List VN) (sh:Nat):List VT->List VN->List Int->List VN×List Int
 | [],acc,ks=>(acc,ks)
 |k::r,acc,ks=>Zq F sh r (acc++F k (sh+acc.length)) (ks++ [((sh+(acc++F k (sh+acc.length)).length:Nat):Int)-1])
def Yc:Nat->VT->Nat->List VN
 |0,_,_=> []
 |f+1, .mk kind n s keys kids,sh=>(Zq (Yc f) sh kids [] []).1++ [{kind:=kind,n:=n,s:=s,keys:=keys,kids:=(Zq (Yc f) sh kids [] []).2}]
theorem Uq (F:VT->Nat->List VN) (sh:Nat):∀(l m:List VT) (acc:List VN) (ks:List Int),Zq F sh (l++m) acc ks=Zq F sh m (Zq F sh l acc ks).1 (Zq F sh l acc ks).2:=by
 intro l
 induction l with
 |nil=>intro m acc ks;rfl
 |cons k r ih=>intro m acc ks;exact ih m _ _
theorem Xl2 (F:VT->Nat->List VN) (sh:Nat):∀(l:List VT) (acc:List VN) (ks:List Int),acc.length<=(Zq F sh l acc ks).1.length:=by
 intro l
 induction l with
 |nil=>intro acc ks;exact Nat.le_refl _
 |cons k r ih=>intro acc ks;exact Nat.le_trans (by simp) (ih _ _)
theorem Xl3 (F:VT->Nat->List VN) (sh:Nat):∀(l:List VT) (acc:List VN) (ks:List Int),(Zq F sh l acc ks).2.length=ks.length+l.length:=by
 intro l
 induction l with
 |nil=>intro acc ks;rfl
 |cons k r ih=>intro acc ks;rw[Zq,ih];simp;omega
def Xx (f sh:Nat) (l:List VT) (k:Nat):List VN:=(Zq (Yc f) sh (l.take k) [] []).1
def ksT (f sh:Nat) (l:List VT) (k:Nat):List Int:=(Zq (Yc f) sh (l.take k) [] []).2
theorem Qo (f sh:Nat) (l:List VT):Xx f sh l 0= []:=by simp[Xx,Zq]
theorem Q3 (f sh:Nat) (l:List VT):ksT f sh l 0= []:=by simp[ksT,Zq]
theorem Xcz (f sh:Nat) (l:List VT) {k:Nat} (h:k<=l.length):(ksT f sh l k).length=k:=by
 unfold ksT;rw[Xl3];simp;omega
theorem Xdj {l:List VT} {k:Nat} (h:k<l.length):l.take (k+1)=l.take k++ [Yg l k]:=by
 rw[List.take_add_one,List.getElem?_eq_getElem h]
 simp[Yg,h]
theorem Zg (f sh:Nat) {l:List VT} {k:Nat} (h:k<l.length):Xx f sh l (k+1)=Xx f sh l k++Yc f (Yg l k) (sh+(Xx f sh l k).length):=by
 unfold Xx;rw[Xdj h,Uq];rfl
theorem Qs (f sh:Nat) {l:List VT} {k:Nat} (h:k<l.length):ksT f sh l (k+1)=ksT f sh l k++ [((sh+(Xx f sh l (k+1)).length:Nat):Int)-1]:=by
 rw[Zg f sh h];unfold ksT Xx;rw[Xdj h,Uq];rfl
theorem Xbc (f sh:Nat) (l:List VT) (k:Nat):(Xx f sh l k).length<=(Xx f sh l l.length).length:=by
 have e:l.take l.length=l.take k++l.drop k:=by simp
 have h:=Uq (Yc f) sh (l.take k) (l.drop k) [] []
 unfold Xx
 rw[e,h]
 exact Xl2 _ _ _ _ _
theorem Qw (f:Nat) (kind n:Int) (s:ByteArray) (keys:List ByteArray) (kids:List VT) (sh:Nat):
  Yc (f+1) (.mk kind n s keys kids) sh=Xx f sh kids kids.length++ [{kind:=kind,n:=n,s:=s,keys:=keys,kids:=ksT f sh kids kids.length}]:=by
 simp[Yc,Xx,ksT]
theorem Xm2 {B:Nat} {w:World} {f:Nat} {t:VT} {v:Value} (h:TreeAt B w f t v) (sh:Nat):0<(Yc f t sh).length:=by
 cases f with
 |zero=>exact h.elim
 |succ f=>obtain ⟨b,n,s,keys,kids⟩:=t;rw[Qw];simp
def Xt (vs:List VN):Nat->Nat->VT
 |0,_=>VT.zero
 |f+1,i=> .mk (Xb vs i).kind (Xb vs i).n (Xb vs i).s (Xb vs i).keys ((Xb vs i).kids.map fun k=>Xt vs f k.toNat)
theorem Xm3 (vs:List VN) (f sh:Nat) (ih:∀i s,lay vs f i s=Yc f (Xt vs f i) s):∀(l:List Int) (acc:List VN) (ks:List Int),V9 (lay vs f) sh l acc ks=Zq (Yc f) sh (l.map fun k=>Xt vs f k.toNat) acc ks:=by
 intro l
 induction l with
 |nil=>intro acc ks;rfl
 |cons k r ihr=>intro acc ks;rw[V9,List.map_cons,Zq,ihr,ih]
theorem Wg (vs:List VN):∀(f i sh:Nat),lay vs f i sh=Yc f (Xt vs f i) sh:=by
 intro f
 induction f with
 |zero=>intro i sh;rfl
 | succ f ih =>
  intro i sh
  rw[lay,Xt,Yc,Xm3 vs f sh ih]
theorem G8 {l:List Int} {g:Int->VT} {j:Nat} (h:j<l.length):Yg (l.map g) j=g (Xj l j):=by
 rw[Y8 h];simp[Yg,h]
theorem ValIs.tree {lo B:Nat} {w:World} {vs:List VN} (hlo:lo<=B) (hr:∀k,k<vs.length->Xz (Xb vs k)=true/\Z7 vs k=true) (hk:∀k,k<vs.length->(Xb vs k).kids.length<=k) (h80:vs.length<=80):∀{f i:Nat} {v:Value},i<vs.length->ValIs lo B w vs f i v->TreeAt B w f (Xt vs f i) v:=by
 intro f
 induction f with
 |zero=>intro i v _ h;exact h.elim
 | succ f ih =>
  intro i v g h
  have o:∀c,Ui lo B w c (Xb vs i).kids.length (fun j u=>ValIs lo B w vs f (Xj (Xb vs i).kids j).toNat u)->Jb B w c ((Xb vs i).kids.map fun k=>Xt vs f k.toNat).length (fun j u=>TreeAt B w f (Yg ((Xb vs i).kids.map fun k=>Xt vs f k.toNat) j) u):=by
   rintro c ⟨a,C,e,F⟩
   refine ⟨by have:=hk i g;simp;omega,a,C,by simpa using e,fun l=> ?_⟩
   rw[List.length_map] at l
   obtain ⟨b,G,P,J,L⟩:=F l
   refine ⟨b,G,J,fun j hj=> ?_⟩
   rw[List.length_map] at hj
   obtain ⟨t,x,D,M⟩:=L j hj
   refine ⟨t,x,D, ?_⟩
   show TreeAt B w f (Yg ((Xb vs i).kids.map fun k=>Xt vs f k.toNat) j) (.iface t x)
   rw[G8 hj]
   have R:=Zw (hr i g).2 hj
   exact ih (by omega) M
  have l:=(hr i g).1
  unfold Xz Yr at l
  have p:∀s:ByteArray,s.toList= []->s=ByteArray.empty:=fun s h=>by
   cases s with|mk d=>rw[ByteArray.toList_eq] at h;simp at h;subst h;rfl
  simp only[Bool.and_eq_true,Bool.not_eq_true',Bool.and_eq_false_iff,decide_eq_false_iff_not,Decidable.not_not,Nat.not_lt,Nat.le_zero,List.length_eq_zero_iff] at l
  obtain ⟨⟨⟨⟨S,q⟩,y⟩,z⟩,_⟩:=l
  rw[Xt]
  rcases h with ⟨k1,e⟩|⟨k2,e⟩|⟨k3,e⟩|⟨k4,e⟩|⟨k5,c,e,g⟩|⟨k6,ks,c,e,hs,g⟩
  ·exact Or.inl ⟨k1,by omega,p _ (by rcases q with h|h;omega;exact h),by rcases y with h|h;omega;exact h,by rcases z with (h|h)|h;omega;omega;rw[h];rfl,e⟩
  ·exact Or.inr (Or.inl ⟨k2,p _ (by rcases q with h|h;omega;exact h),by rcases y with h|h;omega;exact h,by rcases z with (h|h)|h;omega;omega;rw[h];rfl,e⟩)
  ·exact Or.inr (Or.inr (Or.inl ⟨k3,p _ (by rcases q with h|h;omega;exact h),by rcases y with h|h;omega;exact h,by rcases z with (h|h)|h;omega;omega;rw[h];rfl,e⟩))
  ·exact Or.inr (Or.inr (Or.inr (Or.inl ⟨k4,by omega,by rcases y with h|h;omega;exact h,by rcases z with (h|h)|h;omega;omega;rw[h];rfl,e⟩)))
  ·exact Or.inr (Or.inr (Or.inr (Or.inr (Or.inl ⟨k5,by omega,p _ (by rcases q with h|h;omega;exact h),by rcases y with h|h;omega;exact h,c,e,o c g⟩))))
  ·exact Or.inr (Or.inr (Or.inr (Or.inr (Or.inr ⟨k6,by omega,p _ (by rcases q with h|h;omega;exact h),ks,c,e,hs.wide hlo,o c g⟩))))


theorem Kz (w:World):Calls Tryz.prog 250 #[.agg #[]] w fun e w'=>e= .returned (.int .i64 1)/\Below w.heap.size w w':=by
 go_enter Tryz.func250,Tryz.ntmps250
 go_wp2_with fail
 go_ret
 exact ⟨rfl,(Below.refl _ _).alloc (Nat.le_refl _) _⟩
theorem K3 (n:Int) (w:World):Calls Tryz.prog 240 #[.agg #[.int .i64 n]] w fun e w'=>e= .returned (.int .i64 2)/\Below w.heap.size w w':=by
 go_enter Tryz.func240,Tryz.ntmps240
 go_wp2_with fail
 go_ret
 exact ⟨rfl,(Below.refl _ _).alloc (Nat.le_refl _) _⟩
theorem K4 (n:Int) (w:World):Calls Tryz.prog 242 #[.agg #[.int .i64 n]] w fun e w'=>e= .returned (.int .i64 3)/\Below w.heap.size w w':=by
 go_enter Tryz.func242,Tryz.ntmps242
 go_wp2_with fail
 go_ret
 exact ⟨rfl,(Below.refl _ _).alloc (Nat.le_refl _) _⟩
theorem K5 (s:ByteArray) (w:World):Calls Tryz.prog 244 #[.agg #[.string s]] w fun e w'=>e= .returned (.int .i64 4)/\Below w.heap.size w w':=by
 go_enter Tryz.func244,Tryz.ntmps244
 go_wp2_with fail
 go_ret
 exact ⟨rfl,(Below.refl _ _).alloc (Nat.le_refl _) _⟩
theorem V4 (a:Option Addr) (n c:Nat) (w:World):Calls Tryz.prog 248 #[.agg #[.slice a n c]] w fun e w'=>e= .returned (.int .i64 5)/\Below w.heap.size w w':=by
 go_enter Tryz.func248,Tryz.ntmps248
 go_wp2_with fail
 go_ret
 exact ⟨rfl,(Below.refl _ _).alloc (Nat.le_refl _) _⟩
theorem K6 (a:Option Addr) (n c:Nat) (a':Option Addr) (n' c':Nat) (w:World):Calls Tryz.prog 246 #[.agg #[.slice a n c, .slice a' n' c']] w fun e w'=>e= .returned (.int .i64 6)/\Below w.heap.size w w':=by
 go_enter Tryz.func246,Tryz.ntmps246
 go_wp2_with fail
 go_ret
 exact ⟨rfl,(Below.refl _ _).alloc (Nat.le_refl _) _⟩


def ItemsG (lo B:Nat) (w:World) (it:Value) (n:Nat) (P:Nat->Value->Prop):Prop:=
 ∃a cap,it= .slice a n cap/\(0<n->∃b,a=some ⟨b,0,none⟩/\True/\b<B/\∀j,j<n->∃t x,w.cell? ⟨b,j,none⟩=some (.iface t x)/\P j (.iface t x))
def ValG (lo B:Nat) (w:World) (vs:List VN):Nat->Nat->Value->Prop
 |0,_,_=>False
 | f + 1, i, v =>
  ((Xb vs i).kind=1/\v= .iface 160 (.agg #[]))\/
  ((Xb vs i).kind=2/\v= .iface 113 (.agg #[.int .i64 (Xb vs i).n]))\/
  ((Xb vs i).kind=3/\v= .iface 114 (.agg #[.int .i64 (Xb vs i).n]))\/
  ((Xb vs i).kind=4/\v= .iface 116 (.agg #[.string (Xb vs i).s]))\/
  ((Xb vs i).kind=5/\∃it,v= .iface 158 (.agg #[it])/\ItemsG lo B w it (Xb vs i).kids.length (fun j u=>ValG lo B w vs f (Xj (Xb vs i).kids j).toNat u))\/
  ((Xb vs i).kind=6/\∃ks it,v= .iface 118 (.agg #[ks,it])/\StrsAt B w ks (Xb vs i).keys/\ItemsG lo B w it (Xb vs i).kids.length (fun j u=>ValG lo B w vs f (Xj (Xb vs i).kids j).toNat u))
theorem ValG.iface {lo B:Nat} {w:World} {vs:List VN} {f i:Nat} {v:Value} (h:ValG lo B w vs f i v):∃t x,v= .iface t x:=by
 cases f with
 |zero=>exact h.elim
 | succ f =>
  rcases h with ⟨_,rfl⟩|⟨_,rfl⟩|⟨_,rfl⟩|⟨_,rfl⟩|⟨_,it,rfl,_⟩|⟨_,ks,it,rfl,_⟩<;>exact ⟨_,_,rfl⟩
theorem Qd {B:Nat} {w w':World} (h:Below B w w'):∀k,k<B->w'.heap[k]? =w.heap[k]? :=fun k hk=>h.block k hk
theorem ValG.keep {lo B B':Nat} {w w':World} {vs:List VN} (hk:∀k,k<B->w'.heap[k]? =w.heap[k]?) (hB:B<=B') (hlo:lo<=B):∀{f i:Nat} {v:Value},ValG lo B w vs f i v->ValG lo B' w' vs f i v:=by
 intro f
 induction f with
 |zero=>intro i v h;exact h.elim
 | succ f ih =>
  intro i v h
  have d:∀c,ItemsG lo B w c (Xb vs i).kids.length (fun j u=>ValG lo B w vs f (Xj (Xb vs i).kids j).toNat u)->ItemsG lo B' w' c (Xb vs i).kids.length (fun j u=>ValG lo B' w' vs f (Xj (Xb vs i).kids j).toNat u):=by
   rintro c ⟨a,g,e,l⟩
   refine ⟨a,g,e,fun hn=> ?_⟩
   obtain ⟨b,o,p,q,s⟩:=l hn
   refine ⟨b,o,p,by omega,fun j hj=> ?_⟩
   obtain ⟨t,x,y,z⟩:=s j hj
   exact ⟨t,x,(World.cell?_of_block (hk b q)).trans y,ih z⟩
  rcases h with h|h|h|h|⟨hk5,c,e,hi⟩|⟨hk6,ks,c,e,hs,hi⟩
  ·exact Or.inl h
  ·exact Or.inr (Or.inl h)
  ·exact Or.inr (Or.inr (Or.inl h))
  ·exact Or.inr (Or.inr (Or.inr (Or.inl h)))
  ·exact Or.inr (Or.inr (Or.inr (Or.inr (Or.inl ⟨hk5,c,e,d c hi⟩))))
  ·exact Or.inr (Or.inr (Or.inr (Or.inr (Or.inr ⟨hk6,ks,c,e,(hs.keep (lo:=B) (B:=B) (fun k _ hk'=>hk k hk') (Nat.le_refl _)).wide hB,d c hi⟩))))
theorem ValG.more {lo B:Nat} {w:World} {vs:List VN}:∀{f g i:Nat} {v:Value},f<=g->ValG lo B w vs f i v->ValG lo B w vs g i v:=by
 intro f
 induction f with
 |zero=>intro g i v _ h;exact h.elim
 | succ f ih =>
  intro g i v d h
  match g,d with
  | g + 1, d =>
   have l:∀c,ItemsG lo B w c (Xb vs i).kids.length (fun j u=>ValG lo B w vs f (Xj (Xb vs i).kids j).toNat u)->ItemsG lo B w c (Xb vs i).kids.length (fun j u=>ValG lo B w vs g (Xj (Xb vs i).kids j).toNat u):=by
    rintro c ⟨a,o,e,p⟩
    refine ⟨a,o,e,fun hn=> ?_⟩
    obtain ⟨b,q,s,y,z⟩:=p hn
    refine ⟨b,q,s,y,fun j hj=> ?_⟩
    obtain ⟨t,x,C,D⟩:=z j hj
    exact ⟨t,x,C,ih (by omega) D⟩
   rcases h with h|h|h|h|⟨hk5,c,e,hi⟩|⟨hk6,ks,c,e,hs,hi⟩
   ·exact Or.inl h
   ·exact Or.inr (Or.inl h)
   ·exact Or.inr (Or.inr (Or.inl h))
   ·exact Or.inr (Or.inr (Or.inr (Or.inl h)))
   ·exact Or.inr (Or.inr (Or.inr (Or.inr (Or.inl ⟨hk5,c,e,l c hi⟩))))
   ·exact Or.inr (Or.inr (Or.inr (Or.inr (Or.inr ⟨hk6,ks,c,e,hs,l c hi⟩))))
theorem ValG.tree {lo B:Nat} {w:World} {vs:List VN} (hlo:lo<=B) (hr:∀k,k<vs.length->Xz (Xb vs k)=true/\Z7 vs k=true) (hk:∀k,k<vs.length->(Xb vs k).kids.length<=k) (h80:vs.length<=80):∀{f i:Nat} {v:Value},i<vs.length->ValG lo B w vs f i v->TreeAt B w f (Xt vs f i) v:=by
 intro f
 induction f with
 |zero=>intro i v _ h;exact h.elim
 | succ f ih =>
  intro i v g h
  have o:∀c,ItemsG lo B w c (Xb vs i).kids.length (fun j u=>ValG lo B w vs f (Xj (Xb vs i).kids j).toNat u)->Jb B w c ((Xb vs i).kids.map fun k=>Xt vs f k.toNat).length (fun j u=>TreeAt B w f (Yg ((Xb vs i).kids.map fun k=>Xt vs f k.toNat) j) u):=by
   rintro c ⟨a,C,e,F⟩
   refine ⟨by have:=hk i g;simp;omega,a,C,by simpa using e,fun l=> ?_⟩
   rw[List.length_map] at l
   obtain ⟨b,G,P,J,L⟩:=F l
   refine ⟨b,G,J,fun j hj=> ?_⟩
   rw[List.length_map] at hj
   obtain ⟨t,x,D,M⟩:=L j hj
   refine ⟨t,x,D, ?_⟩
   show TreeAt B w f (Yg ((Xb vs i).kids.map fun k=>Xt vs f k.toNat) j) (.iface t x)
   rw[G8 hj]
   have R:=Zw (hr i g).2 hj
   exact ih (by omega) M
  have l:=(hr i g).1
  unfold Xz Yr at l
  have p:∀s:ByteArray,s.toList= []->s=ByteArray.empty:=fun s h=>by
   cases s with|mk d=>rw[ByteArray.toList_eq] at h;simp at h;subst h;rfl
  simp only[Bool.and_eq_true,Bool.not_eq_true',Bool.and_eq_false_iff,decide_eq_false_iff_not,Decidable.not_not,Nat.not_lt,Nat.le_zero,List.length_eq_zero_iff] at l
  obtain ⟨⟨⟨⟨S,q⟩,y⟩,z⟩,_⟩:=l
  rw[Xt]
  rcases h with ⟨k1,e⟩|⟨k2,e⟩|⟨k3,e⟩|⟨k4,e⟩|⟨k5,c,e,g⟩|⟨k6,ks,c,e,hs,g⟩
  ·exact Or.inl ⟨k1,by omega,p _ (by rcases q with h|h;omega;exact h),by rcases y with h|h;omega;exact h,by rcases z with (h|h)|h;omega;omega;rw[h];rfl,e⟩
  ·exact Or.inr (Or.inl ⟨k2,p _ (by rcases q with h|h;omega;exact h),by rcases y with h|h;omega;exact h,by rcases z with (h|h)|h;omega;omega;rw[h];rfl,e⟩)
  ·exact Or.inr (Or.inr (Or.inl ⟨k3,p _ (by rcases q with h|h;omega;exact h),by rcases y with h|h;omega;exact h,by rcases z with (h|h)|h;omega;omega;rw[h];rfl,e⟩))
  ·exact Or.inr (Or.inr (Or.inr (Or.inl ⟨k4,by omega,by rcases y with h|h;omega;exact h,by rcases z with (h|h)|h;omega;omega;rw[h];rfl,e⟩)))
  ·exact Or.inr (Or.inr (Or.inr (Or.inr (Or.inl ⟨k5,by omega,p _ (by rcases q with h|h;omega;exact h),by rcases y with h|h;omega;exact h,c,e,o c g⟩))))
  ·exact Or.inr (Or.inr (Or.inr (Or.inr (Or.inr ⟨k6,by omega,p _ (by rcases q with h|h;omega;exact h),ks,c,e,hs,o c g⟩))))
theorem TreeAt.val {lo B:Nat} {w:World} {vs:List VN}:∀{f i:Nat} {v:Value},TreeAt B w f (Xt vs f i) v->ValG lo B w vs f i v:=by
 intro f
 induction f with
 |zero=>intro i v h;exact h.elim
 | succ f ih =>
  intro i v h
  rw[Xt] at h
  have d:∀c,Jb B w c ((Xb vs i).kids.map fun k=>Xt vs f k.toNat).length (fun j u=>TreeAt B w f (Yg ((Xb vs i).kids.map fun k=>Xt vs f k.toNat) j) u)->ItemsG lo B w c (Xb vs i).kids.length (fun j u=>ValG lo B w vs f (Xj (Xb vs i).kids j).toNat u):=by
   rintro c ⟨_,a,g,e,o⟩
   rw[List.length_map] at e o
   refine ⟨a,g,e,fun hn=> ?_⟩
   obtain ⟨b,p,q,s⟩:=o hn
   refine ⟨b,p,trivial,q,fun j hj=> ?_⟩
   obtain ⟨t,x,y,z⟩:=s j hj
   refine ⟨t,x,y,ih ?_⟩
   have l:TreeAt B w f (Yg ((Xb vs i).kids.map fun k=>Xt vs f k.toNat) j) (.iface t x):=z
   rwa [G8 hj] at l
  rcases h with ⟨k,_,_,_,_,e⟩|⟨k,_,_,_,e⟩|⟨k,_,_,_,e⟩|⟨k,_,_,_,e⟩|⟨k,_,_,_,c,e,hi⟩|⟨k,_,_,ks,c,e,hs,hi⟩
  ·exact Or.inl ⟨k,e⟩
  ·exact Or.inr (Or.inl ⟨k,e⟩)
  ·exact Or.inr (Or.inr (Or.inl ⟨k,e⟩))
  ·exact Or.inr (Or.inr (Or.inr (Or.inl ⟨k,e⟩)))
  ·exact Or.inr (Or.inr (Or.inr (Or.inr (Or.inl ⟨k,c,e,d c hi⟩))))
  ·exact Or.inr (Or.inr (Or.inr (Or.inr (Or.inr ⟨k,ks,c,e,hs,d c hi⟩))))


structure KindIs (t:Nat) (x:Value) (F:FuncId) (k:Int):Prop where
 meth : ∀ w, (Go.method 389 t x "loop.example/g00345/impl.kind").run Tryz.prog w = .ok (F, x) w
 enter:∀w,(callFunc F #[x]).run Tryz.prog w= .ok (.enter F #[x]) w
 says:∀w,Calls Tryz.prog F #[x] w fun e w'=>e= .returned (.int .i64 k)/\Below w.heap.size w w'
theorem Qg {lo B:Nat} {w:World} {vs:List VN} {f i:Nat} {v:Value} (h:ValG lo B w vs f i v):∃t x F,v= .iface t x/\KindIs t x F (Xb vs i).kind:=by
 cases f with
 |zero=>exact h.elim
 | succ f =>
  rcases h with ⟨k,rfl⟩|⟨k,rfl⟩|⟨k,rfl⟩|⟨k,rfl⟩|⟨k,it,rfl,hi⟩|⟨k,ks,it,rfl,hs,hi⟩
  ·rw[k];exact ⟨_,_,250,rfl,fun w=>by kernel_rfl,fun w=>by kernel_rfl,fun w=>Kz w⟩
  ·rw[k];exact ⟨_,_,240,rfl,fun w=>by kernel_rfl,fun w=>by kernel_rfl,fun w=>K3 _ w⟩
  ·rw[k];exact ⟨_,_,242,rfl,fun w=>by kernel_rfl,fun w=>by kernel_rfl,fun w=>K4 _ w⟩
  ·rw[k];exact ⟨_,_,244,rfl,fun w=>by kernel_rfl,fun w=>by kernel_rfl,fun w=>K5 _ w⟩
  ·obtain ⟨a,c,rfl,_⟩:=hi
   rw[k];exact ⟨_,_,248,rfl,fun w=>by kernel_rfl,fun w=>by kernel_rfl,fun w=>V4 _ _ _ w⟩
  ·obtain ⟨a,c,rfl,_⟩:=hi
   obtain ⟨_,_,b,d,rfl,_⟩:=hs
   rw[k];exact ⟨_,_,246,rfl,fun w=>by kernel_rfl,fun w=>by kernel_rfl,fun w=>K6 _ _ _ _ _ _ w⟩


def Ys (vs:List VN) (n:Nat):List VN:=run vs (-(trF (tr (Yd vs) n))) (trF (tr (Yd vs) n)).toNat (n+1-(trF (tr (Yd vs) n)).toNat)
theorem Va {vs:List VN} (h:okB vs=true):∀k,k<vs.length->Z7 vs k=true/\(Xb vs k).kids.length<=80/\(Xb vs k).keys.length<=80:=by
 intro k d
 obtain ⟨j,f,_,g⟩:=Xm h
 have c:=f k d
 have:=g k d
 refine ⟨c.2,by omega, ?_⟩
 by_cases e:(Xb vs k).kind=6
 ·have b:=c.1
  unfold Xz Zi at b
  simp[e] at b
  omega
 ·have b:=c.1
  unfold Xz Yr at b
  simp[e] at b
  have:=b.1.1.2
  simp[this]
theorem G7 {vs:List VN} (hok:okB vs=true) {f m:Nat} (hf:m<f) (hm:m<vs.length):Yc f (Xt vs f m) 0=Ys vs m/\(Ys vs m).length<=80:=by
 obtain ⟨j,_,d,_⟩:=Xm hok
 obtain ⟨⟨c,g⟩,b⟩:=d m hm
 have e:Ys vs m=run vs (-(c:Int)) c (m+1-c):=by rw[Ys,b];simp[trF]
 rw[<-Wg,Xbb vs f m 0 c g hf b,e]
 exact ⟨by simp,by rw[K9];omega⟩
theorem Xvu {vs:List VN} (hok:okB vs=true) (hf:∀i,i<vs.length->Fits (Xb vs i)) {m:Nat} (hm:m<vs.length):∀i,i<(Ys vs m).length->Fits (Xb (Ys vs m) i)/\(Xb (Ys vs m) i).keys.length<=80/\(Xb (Ys vs m) i).kids.length<=80:=by
 obtain ⟨s,t,l,y⟩:=Xm hok
 obtain ⟨⟨b,z⟩,d⟩:=l m hm
 have e:Ys vs m=run vs (-(b:Int)) b (m+1-b):=by rw[Ys,d];simp[trF]
 rw[e]
 intro i o
 rw[K9] at o
 have p:Xb (run vs (-(b:Int)) b (m+1-b)) i=X5 (-(b:Int)) (Xb vs (b+i)):=by
  unfold run
  conv=>lhs;unfold Xb
  rw[List.getD_eq_getElem?_getD,List.getElem?_map,List.getElem?_range' (by omega)]
  simp[Xb]
 rw[p]
 have f:=hf (b+i) (by omega)
 have g:=Va hok (b+i) (by omega)
 refine ⟨⟨f.keysN,f.keysS,by simpa [X5] using f.kidsN,fun j hj=> ?_,f.size,f.klo,f.khi,f.nlo,f.nhi⟩,g.2.2,by simpa [X5] using g.2.1⟩
 have c:j<(Xb vs (b+i)).kids.length:=by simpa [X5] using hj
 have B:=Zw g.1 c
 have q:Xj (X5 (-(b:Int)) (Xb vs (b+i))).kids j=Xj (Xb vs (b+i)).kids j+ -(b:Int):=by
  rw[Y8 hj,Y8 c];simp[X5]
 rw[q]
 omega


def X8 (L:Nat->List VN):Nat->List VN
 |0=> []
 |i+1=>X8 L i++(L i).map (X5 ((X8 L i).length:Int))
def Y7 (L:Nat->List VN):Nat->List Int
 |0=> []
 |i+1=>Y7 L i++ [((X8 L (i+1)).length:Int)-1]
def Yj (kind:Int) (keys:List ByteArray) (L:Nat->List VN) (m:Nat):List VN:=X8 L m++ [{kind:=kind,n:=0,s:=ByteArray.empty,keys:=keys,kids:=Y7 L m}]
theorem Qj (L:Nat->List VN):∀i,(Y7 L i).length=i:=by
 intro i
 induction i with
 |zero=>rfl
 |succ i ih=>simp[Y7,ih]
theorem K7 (L:Nat->List VN) (i:Nat):(X8 L (i+1)).length=(X8 L i).length+(L i).length:=by simp[X8]
theorem Xi8 (L:Nat->List VN) {i j:Nat} (h:i<=j):(X8 L i).length<=(X8 L j).length:=by
 induction j with
 | zero => obtain rfl : i = 0 := by omega
           exact Nat.le_refl _
 | succ j ih =>
  rcases Nat.lt_or_ge i (j+1) with e|e
  ·have:=ih (by omega)
   rw[K7]
   omega
  ·obtain rfl:i=j+1:=by omega
   exact Nat.le_refl _
structure Duo (base:Nat) (w wr:World) (v kv:Value) (ns:List VN) (ks:List Int) (KV IV:Nat->Value):Prop where
 nest:Nest base wr v ns KV IV
 kids:wr.ownsRow base 2 1 kv ks.length (ks.map (.int .i64))
 ki:∀j,j<ns.length->∀y,kv.ownBlock=some y->(IV j).ownBlock≠some y
 frame:Below base w wr
theorem Duo.laid {base:Nat} {w wr w':World} {v v' kv:Value} {ns add:List VN} {ks:List Int} {KV IV KV' IV':Nat->Value} (h:Duo base w wr v kv ns ks KV IV) (l:Laid base wr w' v v' ns add KV IV KV' IV') (hb:base<=wr.heap.size):Duo base w w' v' kv (ns++add) ks KV' IV':=by
 refine ⟨l.1,h.kids.kept l.2.1 (Yk h.kids h.nest.row (by decide)),fun j hj y hy=> ?_,h.frame.grown l.2.1 hb (fun k hk=>(h.nest.row.lt k hk).1)⟩
 by_cases e:j<ns.length
 ·rw[(l.2.2.2.1 j e).2];exact h.ki j e y hy
 ·intro b
  have:=(l.2.2.2.2 j (by omega) (by simpa using hj)).2 y b
  have:=(h.kids.lt y hy).2
  omega
theorem Duo.kid {base:Nat} {w wr w5:World} {v kv kv':Value} {ns:List VN} {ks:List Int} {KV IV:Nat->Value} {o:Obj} {q:Int} (h:Duo base w wr v kv ns ks KV IV) (hb:base<=wr.heap.size)
  (hown:w5.ownsRow base 2 1 kv' (ks.length+1) (ks.map (.int .i64)++ [.int .i64 q])) (hg:(wr.alloc o).grownBy w5 kv.ownBlock) (hat:kv'.ownBlock=kv.ownBlock\/kv'.ownBlock=some (wr.heap.size+1)):
  Duo base w w5 v kv' ns (ks++ [q]) KV IV:=by
 have b:wr.grownBy w5 kv.ownBlock:=(World.grownBy_alloc wr o _).trans hg
 have c:∀i,i<ns.length->(IV i).ownBlock=none\/(IV i).ownBlock≠kv.ownBlock:=by
  intro i d
  cases e:kv.ownBlock with
  | none => cases f : (IV i).ownBlock with
   |none=>exact Or.inl rfl
   |some y=>exact Or.inr (by simp)
  |some y=>exact Or.inr (h.ki i d y e)
 refine ⟨h.nest.kept b (Yk h.nest.row h.kids (by decide)) (fun i d=>Yk (h.nest.rk i d) h.kids (by decide)) c,by simpa using hown,fun j hj y hy=> ?_,h.frame.grown b hb (fun k hk=>(h.kids.lt k hk).1)⟩
 rcases hat with e|e
 ·exact h.ki j hj y (e▸hy)
 ·rw[e] at hy
  simp at hy
  intro f
  have:=((h.nest.ri j hj).lt y f).2
  omega
set_option maxRecDepth 100000 in
theorem Xa9 (B:Nat) (kind:Int) (kv0 u:Value) (keys:List ByteArray) (m:Nat) (L:Nat->List VN) (w:World) (hks:StrsAt B w kv0 keys) (hu:Uw B w u m L) (hB:B<=w.heap.size) (hm:m<=100000) (hkn:keys.length<=100000) (hn:(X8 L m).length+1<=100000) (hnear:∀i,i<m->0<(L i).length/\∀j,j<(L i).length->X1d (Xb (L i) j)):
  Calls Tryz.prog 75 #[.int .i64 kind,kv0,u] w fun e w'=>∃r KV IV,e= .returned r/\Nest w.heap.size w' r (Yj kind keys L m) KV IV/\Below w.heap.size w w':=by
 have HU:=Xa hu
 have bu:=Xa hks
 have bd:=Xa hnear
 obtain ⟨_,au,cu,rfl,be⟩:=hu
 obtain ⟨_,_,aK,cK,rfl,Y⟩:=hks
 have bv:=Xa be
 clear be Y hnear
 obtain ⟨i0,bw,bx,bz,b0⟩:=info_parts Kl
 obtain ⟨i1,b1,b2,b3,b4⟩:=info_parts Wj
 obtain ⟨i2,b5,b6,b7,b8⟩:=info_parts Wi
 have bf:Duo w.heap.size w ((w.alloc (.cells #[] 75)).alloc (.cells #[] 2)) (.slice (some ⟨w.heap.size,0,none⟩) 0 0) (.slice (some ⟨w.heap.size+1,0,none⟩) 0 0) (X8 L 0) (Y7 L 0) (fun _=>undef) (fun _=>undef):=by
  refine ⟨⟨?_,fun i hi=>absurd hi (by simp[X8]),fun i hi=>absurd hi (by simp[X8]),fun i j hi=>absurd hi (by simp[X8]),fun i j hi=>absurd hi (by simp[X8])⟩, ?_,fun j C=>absurd C (by simp[X8]),((Below.refl _ _).alloc (Nat.le_refl _) _).alloc (by simp) _⟩
  ·exact (World.ownsRow_lit (base:=w.heap.size) (e:=75) (size:=5) w #[] 0 (Nat.le_refl _) (by simp[maxLen]) rfl).alloc _
  ·have:=World.ownsRow_lit (base:=w.heap.size) (e:=2) (size:=1) (w.alloc (.cells #[] 75)) #[] 0 (by simp) (by simp[maxLen]) rfl
   simpa [Y7] using this
 have b9:=Xa bf
 clear bf
 go_enter Tryz.func75,Tryz.ntmps75
 go_wp2_with fail
 go_loopw [7,8,9] (fun o kd i wr=>∃(k:Nat) (KV IV:Nat->Value),k<=m/\i= .int .i64 k/\Duo w.heap.size w wr o kd (X8 L k) (Y7 L k) KV IV) (fun _ _ i _=>m-(intOf i).toNat)
 case atStart=>exact ⟨0,_,_,Nat.zero_le _,rfl,b9.out⟩
 case round=>
  obtain ⟨k,KV,IV,hk,rfl,f⟩:=hrel
  have D:=Xa f
  have zs:=f.frame.size
  obtain ⟨ao,co,eo⟩:=Xg f.nest.row
  obtain ⟨ai,ci,ei⟩:=Xg f.kids
  obtain ⟨M,hM⟩:∃M,(X8 L k).length=M:=⟨_,rfl⟩
  have p:=Xa hM
  have bg:M<=(X8 L m).length:=by rw[<-hM];exact Xi8 L hk
  rw[hM] at eo
  rw[Qj] at ei
  subst eo ei
  clear f hM
  by_cases hlt:k<m
  ·obtain ⟨b,rfl,cn,z⟩:=bv.out (by omega)
   obtain ⟨r,bh,bi⟩:=z k hlt
   have bj:=(Xc D.out.frame (by omega)).trans bh
   have ca:=Xa (bi.below (D.out.frame.mono hB))
   obtain ⟨_,ar,cr,rfl,_⟩:=bi
   have cb:=Xa (Xi8 L (show k+1<=m by omega))
   have Z:=Xa (K7 L k)
   obtain ⟨Lk,t⟩:∃Lk,(L k).length=Lk:=⟨_,rfl⟩
   have ba:=Xa t
   rw[t] at bj
   have cp:M+Lk+1<=100000:=by
    have h1:=cb.out
    have h2:=Z.out
    rw[p.out,t] at h2
    omega
   have R:=Xa ca.out
   rw[t] at R
   have cq:0<Lk:=by rw[<-t];exact (bd.out k hlt).1
   clear z bh t bg
   go_wp2_with fail
   refine (Xli B w.heap.size (.slice ao M co) (.slice ar Lk cr) (X8 L k) (L k) KV IV wr D.out.nest R.out hB zs (by rw[p.out,ba.out];omega) (bd.out k hlt).2).mono ?_
   rintro e w3 ⟨v3,bl,bm,rfl,bn⟩
   have bo:=D.out.laid bn zs
   have F:Hid (Duo w.heap.size w w3 v3 (.slice ai k ci) (X8 L (k+1)) (Y7 L k) bl bm):=bo
   have z3:=F.out.frame.size
   obtain ⟨a3,c3,e3⟩:=Xg F.out.nest.row
   obtain ⟨N,hN⟩:∃N,(X8 L (k+1)).length=N:=⟨_,rfl⟩
   have cs:N<=100000:=by rw[<-hN,Z.out,p.out,ba.out];omega
   have ct:1<=N:=by rw[<-hN,Z.out,p.out,ba.out];omega
   have cc:=Xa hN
   rw[hN] at e3
   subst e3
   have bp:=Xa F.out.kids
   rw[Qj] at bp
   have bq:Hid (Y7 L (k+1)=Y7 L k++ [(N:Int)-1]):=by rw[Hid,<-cc.out];rfl
   clear bn bo hN
   go_wp2_with (at_builtin;refine wpList_append_own_at _ rfl _ _ 73 rfl w.heap.size 2 i2 (.int .i64 0) 1 8 Tryz.underlying73 b5 b6 b7 b8 rfl (by decide) _ _ _ rfl (bp.out.alloc _) ⟨w3.heap.size,0,none⟩ 1 1 [.int .i64 ((N:Int)-1)] rfl rfl ?c1 ?c2 ?c3 ?c4 ?c5 ?_)
   case c1=>exact cell_one_new _ _ _
   case c2=>first|rfl|(intro u hu;simp at hu;subst hu;rfl)
   case c3=>unfold maxLen;omega
   case c4=>omega
   case c5=>first|omega|(simp;omega)
   intro cv w5 g c _ G
   have cd:=Xa (F.out.kid (by omega) (by rw[Qj];exact g) c (by simpa using G))
   clear g c G
   go_wp2_with fail
   go_roundw
   case rel=>exact ⟨k+1,bl,bm,by omega,by go_num,by rw[bq.out];exact cd.out⟩
   case measure=>simp[intOf];omega
  ·obtain rfl:k=m:=by omega
   have S:Hid ((wr.alloc (.cells #[] 9)).ownsRow w.heap.size 9 1 (.slice (some ⟨wr.heap.size,0,none⟩) 0 0) 0 []):=World.ownsRow_lit wr #[] 0 zs (by simp[maxLen]) rfl
   have T:Hid (0<keys.length->∃ad,aK=some ad/\∀j u,(keys.map Value.string)[j]? =some u->(wr.alloc (.cells #[] 9)).cell? (ad.add j)=some u):=by
    intro hp
    obtain ⟨_,_,cw,cx,e,Y⟩:=bu.out
    cases e
    obtain ⟨bk,ok,rfl,cy,ce⟩:=Y hp
    refine ⟨_,rfl,fun j u C=> ?_⟩
    have br:j<keys.length:=by have:=(List.getElem?_eq_some_iff.1 C).1;simpa using this
    rw[show (⟨bk,ok,none⟩:Addr).add j=⟨bk,ok+j,none⟩ by simp[Addr.add],Xc ((Below.refl _ wr).alloc (Nat.le_refl _) _) (by omega),Xc D.out.frame (by omega),ce j br]
    simp[br,Xf] at C|-
    exact C
   go_wp2_with (at_builtin;refine X6 rfl _ _ 72 rfl w.heap.size 9 i1 (.string ByteArray.empty) 1 16 Tryz.underlying72 b1 b2 b3 b4 rfl (by decide) _ 0 [] rfl S.out aK keys.length cK (keys.map .string) rfl (by simp) T.out ?c2 ?c3 ?c4 ?c5 ?_)
   case c2=>intro u hu;first|rfl|(obtain ⟨q,_,rfl⟩:=List.mem_map.1 hu;rfl)
   case c3=>unfold maxLen;omega
   case c4=>omega
   case c5=>first|omega|(simp;omega)
   intro vk w5 J bs V
   (try simp only[Nat.zero_add,List.nil_append] at J)
   have P:wr.grownBy w5 none:=(World.grownBy_alloc wr _ none).andThen bs (fun j C=>Or.inl (by simp[Value.ownBlock] at C;omega))
   have nn:∀x:Option Nat,x=none\/x≠none:=fun x=>by cases x<;>simp
   have d:=D.out.nest.kept P (nn _) (fun _ _=>nn _) (fun _ _=>nn _)
   have l:=D.out.kids.kept P (nn _)
   have bb:Below w.heap.size w w5:=D.out.frame.grown P zs (fun k hk=>by cases hk)
   have cf:Hid (∀j,j<(X8 L k).length->∀y,vk.ownBlock=some y->(KV j).ownBlock≠some y):=by
    intro j C y hy e
    have h1:=((D.out.nest.rk j C).lt y e).2
    rcases V with e2|e2
    ·rw[e2] at hy;simp[Value.ownBlock] at hy;omega
    ·rw[e2] at hy;simp at hy;omega
   obtain ⟨ak,ck,cg⟩:=Xg J
   subst cg
   have bt:=Xa d
   have ch:=Xa l
   have cj:=Xa J
   have cl:=Xa bb
   have z5:=bb.size
   have X:=Xa (d.row.alloc (.cells #[.int .i64 kind, .int .i64 0, .string ⟨#[]⟩, .slice ak keys.length ck, .slice ai k ci] 75))
   rw[p.out] at X
   clear d l bb J bs V P nn T S
   go_wp2_with (at_builtin;go_loud (refine wpList_append_own_at _ rfl _ _ 25 rfl w.heap.size 75 i0 zeroNode 5 80 Tryz.underlying25 bw bx bz b0 rfl (by decide) _ _ _ rfl X.out ⟨w5.heap.size,0,none⟩ 1 1 [.int .i64 kind, .int .i64 0, .string ⟨#[]⟩, .slice ak keys.length ck, .slice ai k ci] rfl rfl ?c1 ?c2 ?c3 ?c4 ?c5 ?_))
   case c1=>exact Xo6 _ _ _ _ _ _ _ (by simp)
   case c2=>intro u hu;simp at hu;rcases hu with rfl|rfl|rfl|rfl|rfl<;>rfl
   case c3=>unfold maxLen;omega
   case c4=>omega
   case c5=>simp;omega
   intro v' w6 g c _ G
   have bc:w5.grownBy w6 (Value.slice ao M co).ownBlock:=(World.grownBy_alloc w5 _ _).trans c
   have HF:=Xa (Nest.snoc (x:={kind:=kind,n:=0,s:=⟨#[]⟩,keys:=keys,kids:=Y7 L k}) bt.out cj.out ch.out cf.out (fun j C=>D.out.ki j C) (by rw[p.out];exact g) bc)
   have cm:Hid (Below w.heap.size w w6):=cl.out.grown bc z5 (fun x hx=>(bt.out.row.lt x hx).1)
   clear g c G bc
   go_wp2_with fail
   go_ret
   exact ⟨_,_,_,rfl,HF.out,cm.out⟩


set_option maxRecDepth 100000 in
theorem Xa0 (B:Nat) (v1 v2:Value) (m:Nat) (L:Nat->List VN) (w:World) (h1:Uw B w v1 m L) (h2:Uw B w v2 m L) (hB:B<=w.heap.size):
  Calls Tryz.prog 15 #[v1,v2] w fun e w'=>e= .returned (.bool true)/\Below w.heap.size w w':=by
 obtain ⟨R,S,o,rfl,d⟩:=h1
 obtain ⟨_,T,p,rfl,f⟩:=h2
 have z:=Xa d
 have C:=Xa f
 clear d f
 have D:((m:Int) !=(m:Int))=false:=by simp
 go_enter Tryz.func15,Tryz.ntmps15
 go_wp2_with fail
 go_loopw [5] (fun i wr=>∃k:Nat,k<=m/\i= .int .i64 k/\Below w.heap.size w wr) (fun i _=>m-(intOf i).toNat)
 case atStart=>exact ⟨0,Nat.zero_le _,rfl,Below.refl _ _⟩
 case round=>
  obtain ⟨k,V,rfl,b⟩:=hrel
  have c:=b.size
  by_cases hlt:k<m
  ·obtain ⟨X,rfl,F,g⟩:=z.out (by omega)
   obtain ⟨Y,rfl,j,l⟩:=C.out (by omega)
   obtain ⟨Z,q,s⟩:=g k hlt
   obtain ⟨r2,t,y⟩:=l k hlt
   have c1:=(Xc b (by omega)).trans q
   have c2:=(Xc b (by omega)).trans t
   have G:=Xa (s.below (b.mono hB))
   have J:=Xa (y.below (b.mono hB))
   obtain ⟨_,q1,p1,rfl,_⟩:=s
   obtain ⟨_,q2,p2,rfl,_⟩:=y
   clear g l q t
   go_wp2_with fail
   go_region_with (go_at_call 17;refine (Xbt B _ _ (L k) _ ?_ ?_ ?_).mono ?_;exact G.out.below (Xaa rfl rfl rfl rfl);exact J.out.below (Xaa rfl rfl rfl rfl);exact (by simp;omega);rintro e M ⟨rfl,P⟩)
   all_goals
    have j:Below w.heap.size w M:=b.drew.trans (P.mono (by simpa using c))
    go_wp2_with fail
    go_roundw
    case rel=>exact ⟨k+1,by omega,by go_num,j⟩
    case measure=>simp[intOf];omega
  ·go_wp2_with fail
   go_ret
   exact ⟨rfl,b⟩
end Go.Proofs.YtdjddneidbddpaaGreatDoor
