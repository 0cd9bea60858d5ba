import Derived.Lib.Builder
import Derived.WalkKit
import Derived.Laws.IdiomStrings
import Derived.Deep.RegionLaw
import Derived.Deep.AppendLies
import Derived.OrdersIn
import Derived.RangeFuncCalls
import Derived.Lib.ItoaNum
import Derived.Lib.ParseIntBTie
import Derived.BigQuiet
namespace Go.Proofs.YtehihemfepbmfaaGreatDoor
set_option linter.unusedSectionVars false
open Go.RowKit
set_option linter.unusedSimpArgs false
set_option linter.unusedVariables false
def hexS:List UInt8:= [48,49,50,51,52,53,54,55,56,57,97,98,99,100,101,102]
def Vh (n:Nat):UInt8:=hexS.getD n 0

theorem Xa {p:Prop} (h:p):Hid p:=h
theorem Xm (s:ByteArray):s.data.toList.length=s.size:=Array.length_toList
def txt (l:List UInt8):ByteArray:=⟨l.toArray⟩
theorem Xo (l:List UInt8):(txt l).size=l.length:=by simp[txt,ByteArray.size]
theorem Yo (l m:List UInt8):txt l++txt m=txt (l++m):=by
 apply ByteArray.ext;simp[txt]
theorem Ql (s:ByteArray):txt s.data.toList=s:=by
 apply ByteArray.ext;simp[txt]
theorem Xz (l:List UInt8):(txt l).data.toList=l:=by simp[txt]
theorem Z6 {a b:ByteArray} (h:a=b):Ending.returned (.string a)=Ending.returned (.string b):=by rw[h]
theorem Kf {a b:ByteArray} (h:a=b):Value.string a=Value.string b:=by rw[h]
theorem Gj (l:List UInt8) (s:ByteArray):txt l++s=txt (l++s.data.toList):=by
 conv=>lhs;rw[←Ql s]
 exact Yo _ _
theorem Xor {s:ByteArray} {k:Nat} (h:k<s.size) (h':k<s.data.toList.length):s.data.toList[k]=s[k]:=by
 simp[ByteArray.getElem_eq_getElem_data]
theorem getK? {s:ByteArray} {k:Nat} (h:k<s.size):s.data.toList[k]? =some s[k]:=by
 rw[List.getElem?_eq_getElem (by rw[Xm];exact h),Xor h]
theorem Xdn {a b:ByteArray} (h:(a.toList==b.toList)=true):a=b:=by
 have h':=eq_of_beq h
 rw[ByteArray.toList_eq,ByteArray.toList_eq] at h'
 rw[←Ql a,←Ql b,h']
theorem Xmq (s:ByteArray) (a b:Nat):s.extract a b=txt ((s.data.toList.drop a).take (b-a)):=by
 conv=>lhs;rw[←Ql s]
 exact ByteArray.extract_mk _ _ _
theorem Wi {c d:UInt8} (h:¬c=d):¬(c.toNat:Int)=(d.toNat:Int):=fun e=>h (UInt8.toNat_inj.1 (by omega))
theorem Xgr {x:Int} (h0:0≤x) (h1:x<256):IntKind.u8.wrap x=x:=by
 simp[IntKind.wrap,show IntKind.u8.bits=8 from rfl,show IntKind.u8.signed=false from rfl];omega
theorem Xco {x:Int} (h0: -4611686018427387904≤x) (h1:x<4611686018427387904):IntKind.i64.wrap x=x:=by
 have e:IntKind.i64.bits=64:=rfl
 have e2:IntKind.i64.signed=true:=rfl
 simp[IntKind.wrap,e,e2];omega
theorem Xr1 (c:UInt8):IntKind.u8.wrap ((c.toNat:Int)/16)=(c.toNat:Int)/16:=by
 have:=c.toNat_lt;exact Xgr (by omega) (by omega)
theorem Xr2 (c:UInt8):((c.toNat:Int)).tmod 16=(c.toNat:Int)%16:=Int.tmod_eq_emod_of_nonneg (by omega)
theorem Gk {P:Program} {t:TypeId} (s:ByteArray) (a b:Nat) (h:P.underlying t=some .string) (h1:a≤b) (h2:b≤s.size) (w:World):
  (Instr.slice t (.string s) (some (.int .i64 (a:Int))) (some (.int .i64 (b:Int))) none).run P w= .ok (.string (txt ((s.data.toList.drop a).take (b-a)))) w:=by
 rw[run_slice_string w t s .i64 .i64 (a:Int) (b:Int) h (by omega) (by omega) (by omega),Xmq]
 simp
theorem Xu0 {s:ByteArray} {k:Nat} (h:k<s.size):(s.data.toList.drop k).take (k+1-k)= [s[k]]:=by
 have h':k<s.data.toList.length:=by rw[Xm];exact h
 rw[List.drop_eq_getElem_cons h',Xor h]
 have:k+1-k=1:=by omega
 rw[this];rfl
theorem Xd1 {P:Program} {t:TypeId} {s:ByteArray} {k:Nat} (ht:P.underlying t=some .string) (h:k<s.size) {c:UInt8} (hc:s[k]=c) (w:World):
  (Instr.slice t (.string s) (some (.int .i64 (k:Int))) (some (.int .i64 ((k:Int)+1))) none).run P w= .ok (.string (txt [c])) w:=by
 have:=Gk (P:=P) (t:=t) s k (k+1) ht (by omega) (by omega) w
 rw[Xu0 h,hc] at this
 exact this

def Ks (c:UInt8):List UInt8:=
 if c=34 then [92,34] else if c=92 then [92,92] else if c=8 then [92,98] else if c=9 then [92,116] else if c=10 then [92,110] else if c=12 then [92,102] else if c=13 then [92,114]
 else if c<32∨c=127 then [92,117,48,48,Vh (c.toNat/16),Vh (c.toNat%16)] else [c]
def quo:List UInt8→List UInt8
 | []=> []
 |c::l=>Ks c++quo l
def Gp (s:ByteArray):List UInt8:=34::(quo s.data.toList++ [34])
theorem Xuw (c:UInt8):1≤(Ks c).length∧(Ks c).length≤6:=by
 unfold Ks
 repeat' split
 all_goals simp
theorem Xxw (l m:List UInt8):quo (l++m)=quo l++quo m:=by
 induction l with
 |nil=>rfl
 |cons c l ih=>simp[quo,ih]
theorem Xdz (l:List UInt8):(quo l).length≤6 *l.length:=by
 induction l with
 |nil=>simp[quo]
 |cons c l ih=>have:=Xuw c;simp[quo];omega
theorem Xj9 (l:List UInt8) (k:Nat) (h:k<l.length):quo (l.take (k+1))=quo (l.take k)++Ks l[k]:=by
 rw[List.take_succ_eq_append_getElem h,Xxw];simp[quo]
theorem Xdl (l:List UInt8) (k:Nat):(quo (l.take k)).length≤6 *l.length:=by
 have:=Xdz (l.take k);have h2:(l.take k).length≤l.length:=by rw[List.length_take];omega
 omega
theorem Wc (s:ByteArray):2≤(Gp s).length∧(Gp s).length≤6 *s.size+2:=by
 have h1:s.data.toList.length=s.size:=Array.length_toList
 have h2:=Xdz s.data.toList
 unfold Gp
 simp only[List.length_cons,List.length_append,List.length_nil]
 omega
def Xka:List UInt8:= [34,92,8,9,10,12,13]
def quoL:List UInt8:= [34,92,98,116,110,102,114]


structure VN where
 kind:Int
 n:Int
 s:ByteArray
 keys:List ByteArray
 kids:List Int
def VN.zero:VN:=⟨0,0,ByteArray.empty,[],[]⟩
def Qi (s:ByteArray):Bool:=decide (s.size≤60)&&s.data.toList.all fun c=>decide (c.toNat≤127)
def Xa6 (a b:ByteArray):Bool:=Op.bytesLess a.toList b.toList
def Xt (l:List ByteArray) (i:Nat):ByteArray:=l.getD i ByteArray.empty
def Qy (l:List ByteArray) (j:Nat):Bool:=Qi (Xt l j)&&(decide (j=0)||Xa6 (Xt l (j-1)) (Xt l j))
def Kt (l:List ByteArray):Bool:=(List.range l.length).all (Qy l)
def Q7 (x:VN):Bool:=
 !(decide (x.kind≠2)&&decide (x.kind≠3)&&decide (x.n≠0))&& !(decide (x.kind≠4)&&decide (x.s.toList≠ []))&&
 !(decide (x.kind≠6)&&decide (0<x.keys.length))&& !(decide (x.kind≠5)&&decide (x.kind≠6)&&decide (0<x.kids.length))
def Qu (x:VN):Bool:=
 if x.kind=1∨x.kind=5 then true
 else if x.kind=2 then decide (x.n=0)||decide (x.n=1)
 else if x.kind=3 then decide (-1000000000000000≤x.n)&&decide (x.n≤1000000000000000)
 else if x.kind=4 then Qi x.s
 else if x.kind=6 then decide (x.keys.length=x.kids.length)&&Kt x.keys
 else false
def Yb (x:VN):Bool:=Q7 x&&Qu x
theorem Xcx (n:Nat):((n:Int)==0)= !decide (0<n):=by
 cases n with
 |zero=>rfl
 |succ n=>simp;omega
def Xv (T:Nat→Option (Nat×Nat)) (st:Option (Nat×Nat)) (k:Int):Option (Nat×Nat):=
 match st with
 |none=>none
 |some (b,h)=>if b≠0∧k=(b:Int)-1 then (T (b-1)).map (fun p=>(p.1,max h p.2)) else none
def tree (K:Nat→List Int):Nat→Nat→Option (Nat×Nat)
 |0,_=>none
 |f+1,n=>((K n).reverse.foldl (Xv (tree K f)) (some (n,0))).map fun p=>(p.1,p.2+1)
theorem Ub (T:Nat→Option (Nat×Nat)) (l:List Int):l.foldl (Xv T) none=none:=by
 induction l with
 |nil=>rfl
 |cons k l ih=>exact ih
theorem Xo9 {T:Nat→Option (Nat×Nat)} {b h:Nat} {k:Int} {q:Nat×Nat} (e:Xv T (some (b,h)) k=some q):
  b≠0∧k=(b:Int)-1∧∃p,T (b-1)=some p∧q=(p.1,max h p.2):=by
 unfold Xv at e
 simp only at e
 split at e
 ·rename_i hc
  cases ht:T (b-1) with
  |none=>simp[ht] at e
  |some p=>simp[ht] at e;exact ⟨hc.1,hc.2,p,rfl,e.symm⟩
 ·cases e
theorem Qz {T:Nat→Option (Nat×Nat)} {b h:Nat} {k:Int} {l:List Int} {q:Nat×Nat} (e:(k::l).foldl (Xv T) (some (b,h))=some q):
  ∃p,b≠0∧k=(b:Int)-1∧T (b-1)=some p∧l.foldl (Xv T) (some (p.1,max h p.2))=some q:=by
 rw[List.foldl_cons] at e
 cases hs:Xv T (some (b,h)) k with
 |none=>rw[hs,Ub] at e;cases e
 | some r =>
  obtain ⟨h1,h2,p,h3,rfl⟩:=Xo9 hs
  exact ⟨p,h1,h2,h3,by rw[hs] at e;exact e⟩
theorem Xv5 {T:Nat→Option (Nat×Nat)} (hT:∀m p,T m=some p→p.1≤m):∀(l:List Int) (b h:Nat) (q:Nat×Nat),l.foldl (Xv T) (some (b,h))=some q→q.1≤b:=by
 intro l
 induction l with
 |nil=>intro b h q e;simp at e;rw[←e];exact Nat.le_refl _
 | cons k l ih =>
  intro b h q e
  obtain ⟨p,h1,_,h3,h4⟩:=Qz e
  have:=ih _ _ _ h4
  have:=hT _ _ h3
  omega
theorem Xf7 (K:Nat→List Int):∀(f n:Nat) (p:Nat×Nat),tree K f n=some p→p.1≤n:=by
 intro f
 induction f with
 |zero=>intro n p e;cases e
 | succ f ih =>
  intro n p e
  rw[tree] at e
  cases hf:(K n).reverse.foldl (Xv (tree K f)) (some (n,0)) with
  |none=>simp[hf] at e
  | some q =>
   simp[hf] at e
   have:=Xv5 ih _ _ _ _ hf
   rw[←e]
   exact this
theorem Xb1 {T T':Nat→Option (Nat×Nat)} (N:Nat) (hT:∀m p,T m=some p→p.1≤m) (he:∀m,m<N→T m=T' m):∀(l:List Int) (b h:Nat),b≤N→l.foldl (Xv T) (some (b,h))=l.foldl (Xv T') (some (b,h)):=by
 intro l
 induction l with
 |nil=>intro b h _;rfl
 | cons k l ih =>
  intro b h hb
  rw[List.foldl_cons,List.foldl_cons]
  by_cases hc:b≠0∧k=(b:Int)-1
  ·have e1:T (b-1)=T' (b-1):=he _ (by omega)
   cases ht:T (b-1) with
   | none =>
    rw[show Xv T (some (b,h)) k=none by simp[Xv,hc,ht],show Xv T' (some (b,h)) k=none by simp[Xv,hc,←e1,ht],Ub,Ub]
   | some p =>
    rw[show Xv T (some (b,h)) k=some (p.1,max h p.2) by simp only[Xv];rw[if_pos hc,ht];rfl,show Xv T' (some (b,h)) k=some (p.1,max h p.2) by simp only[Xv];rw[if_pos hc,←e1,ht];rfl]
    have:=hT _ _ ht
    exact ih _ _ (by omega)
  ·rw[show Xv T (some (b,h)) k=none by simp only[Xv];rw[if_neg hc],show Xv T' (some (b,h)) k=none by simp only[Xv];rw[if_neg hc],Ub,Ub]
theorem Xpa (K:Nat→List Int):∀(N n f g:Nat),n<N→n<f→n<g→tree K f n=tree K g n:=by
 intro N
 induction N with
 |zero=>intro n f g h;omega
 | succ N ih =>
  intro n f g hN hf hg
  match f,g with
  |0,_=>omega
  |_+1,0=>omega
  | f + 1, g + 1 =>
   rw[tree,tree]
   rw[Xb1 n (Xf7 K f) (fun m hm=>ih m f g (by omega) (by omega) (by omega)) _ _ _ (Nat.le_refl _)]
def tr (K:Nat→List Int) (n:Nat):Option (Nat×Nat):=tree K (n+1) n
theorem Gw {K:Nat→List Int} {n:Nat} {p:Nat×Nat} (h:tr K n=some p):p.1≤n:=Xf7 K _ _ _ h
theorem Un (K:Nat→List Int) (n:Nat):tr K n=((K n).reverse.foldl (Xv (tr K)) (some (n,0))).map fun p=>(p.1,p.2+1):=by
 rw[tr,tree]
 rw[Xb1 n (Xf7 K n) (fun m hm=>Xpa K (n+1) m n (m+1) (by omega) (by omega) (by omega)) _ _ _ (Nat.le_refl _)]
 rfl
theorem Xpb {T:Nat→Option (Nat×Nat)} (hT:∀m p,T m=some p→p.1≤m∧p.2≤m+1):∀(l:List Int) (b h:Nat) (q:Nat×Nat) (N:Nat),b≤N→h≤N→l.foldl (Xv T) (some (b,h))=some q→q.2≤N:=by
 intro l
 induction l with
 |nil=>intro b h q N hb hh e;simp at e;rw[←e];exact hh
 | cons k l ih =>
  intro b h q N hb hh e
  obtain ⟨p,h1,_,h3,h4⟩:=Qz e
  have:=hT _ _ h3
  exact ih _ _ _ N (by omega) (by omega) h4
theorem Xf8 {K:Nat→List Int}:∀(n:Nat) (p:Nat×Nat),tr K n=some p→p.1≤n∧p.2≤n+1:=by
 intro n
 induction n using Nat.strongRecOn with
 | ind n ih =>
  intro p e
  refine ⟨Gw e, ?_⟩
  rw[Un] at e
  have hx:(K n).reverse.foldl (Xv (tr K)) (some (n,0))=(K n).reverse.foldl (Xv fun m=>if m<n then tr K m else none) (some (n,0)):=
   Xb1 n (fun m p hp=>Gw hp) (fun m hm=>by rw[if_pos hm]) _ _ _ (Nat.le_refl _)
  rw[hx] at e
  cases hf:(K n).reverse.foldl (Xv fun m=>if m<n then tr K m else none) (some (n,0)) with
  |none=>simp[hf] at e
  | some q =>
   rw[hf] at e
   simp at e
   have:=Xpb (T:=fun m=>if m<n then tr K m else none) (fun m p hp=>by
    by_cases hm:m<n
    ·simp only[if_pos hm] at hp;exact ih m hm p hp
    ·simp only[if_neg hm] at hp;cases hp) _ _ _ _ n (Nat.le_refl _) (Nat.zero_le _) hf
   rw[←e]
   simp only
   omega
theorem Xpc {T:Nat→Option (Nat×Nat)} (hT:∀m p,T m=some p→p.1≤m):∀(l:List Int) (b h:Nat) (q:Nat×Nat),l.foldl (Xv T) (some (b,h))=some q→∀m,q.1≤m→m<b→∃c p,T c=some p∧c<b∧p.1≤m∧m≤c:=by
 intro l
 induction l with
 |nil=>intro b h q e m h1 h2;simp at e;rw[←e] at h1;simp only at h1;omega
 | cons k l ih =>
  intro b h q e m h1 h2
  obtain ⟨p,g1,_,g3,g4⟩:=Qz e
  by_cases hm:p.1≤m
  ·exact ⟨b-1,p,g3,by omega,hm,by omega⟩
  ·obtain ⟨c,p',e1,e2,e3,e4⟩:=ih _ _ _ g4 m h1 (by omega)
   have:=hT _ _ g3
   exact ⟨c,p',e1,by omega,e3,e4⟩
theorem Xlv {K:Nat→List Int}:∀(n:Nat) (p:Nat×Nat),tr K n=some p→∀m,p.1≤m→m≤n→∃q,tr K m=some q:=by
 intro n
 induction n using Nat.strongRecOn with
 | ind n ih =>
  intro p e m h1 h2
  by_cases hm:m=n
  ·exact ⟨p,hm▸e⟩
  rw[Un] at e
  cases hf:(K n).reverse.foldl (Xv (tr K)) (some (n,0)) with
  |none=>simp[hf] at e
  | some q =>
   rw[hf] at e
   simp at e
   rw[←e] at h1
   obtain ⟨c,p',e1,e2,e3,e4⟩:=Xpc (fun m p hp=>Gw hp) _ _ _ _ hf m h1 (by omega)
   exact ih c e2 p' e1 m e3 e4
theorem Xpd {T:Nat→Option (Nat×Nat)} (hT:∀m p,T m=some p→p.1≤m):∀(l:List Int) (b h:Nat) (q:Nat×Nat),l.foldl (Xv T) (some (b,h))=some q→∀k∈l,0≤k∧k≤(b:Int)-1:=by
 intro l
 induction l with
 |nil=>intro b h q e k hk;cases hk
 | cons x l ih =>
  intro b h q e k hk
  obtain ⟨p,g1,g2,g3,g4⟩:=Qz e
  have:=hT _ _ g3
  rcases List.mem_cons.1 hk with rfl|hk
  ·omega
  ·have:=ih _ _ _ g4 k hk
   omega
theorem Xf9 {K:Nat→List Int} {n:Nat} {p:Nat×Nat} (e:tr K n=some p):∀k∈K n,0≤k∧k≤(n:Int)-1:=by
 rw[Un] at e
 cases hf:(K n).reverse.foldl (Xv (tr K)) (some (n,0)) with
 |none=>simp[hf] at e
 |some q=>exact fun k hk=>Xpd (fun m p hp=>Gw hp) _ _ _ _ hf k (by simpa using hk)
def Xc (vs:List VN) (i:Nat):VN:=vs.getD i VN.zero
def Y2 (vs:List VN) (i:Nat):List Int:=(Xc vs i).kids
def Q0 (vs:List VN) (i:Nat):Bool:=(Y2 vs i).all fun k=>decide (0≤k)&&decide (k≤(i:Int)-1)
def Uo (vs:List VN):Bool:=match tr (Y2 vs) (vs.length-1) with
 |some p=>decide (p.1=0)&&decide (p.2≤8)
 |none=>false
def Xa7 (vs:List VN):Bool:=decide (1≤vs.length)&&decide (vs.length≤80)
def okB (vs:List VN):Bool:=Xa7 vs&&((List.range vs.length).all fun i=>Yb (Xc vs i)&&Q0 vs i)&&Uo vs
def Xga (vs:List VN):Bool:=Xa7 vs&&((List.range vs.length).all fun i=>Yb (Xc vs i))&&(((List.range vs.length).all fun i=>(tr (Y2 vs) i).isSome)&&Uo vs)
theorem Xpe (vs:List VN):Xga vs=okB vs:=by
 rw[Bool.eq_iff_iff]
 unfold Xga okB
 simp only[Bool.and_eq_true,List.all_eq_true,List.mem_range]
 constructor
 ·rintro ⟨⟨h1,h2⟩,h3,h4⟩
  refine ⟨⟨h1,fun i hi=>⟨h2 i hi, ?_⟩⟩,h4⟩
  obtain ⟨p,hp⟩:=Option.isSome_iff_exists.1 (h3 i hi)
  unfold Q0
  simp only[List.all_eq_true,Bool.and_eq_true,decide_eq_true_eq]
  exact Xf9 hp
 ·rintro ⟨⟨h1,h2⟩,h3⟩
  refine ⟨⟨h1,fun i hi=>(h2 i hi).1⟩,fun i hi=> ?_,h3⟩
  unfold Uo at h3
  cases hr:tr (Y2 vs) (vs.length-1) with
  |none=>rw[hr] at h3;cases h3
  | some p =>
   rw[hr] at h3
   simp at h3
   obtain ⟨q,hq⟩:=Xlv _ _ hr i (by omega) (by omega)
   rw[hq]
   rfl

def Xk (l:List Int) (i:Nat):Int:=l.getD i 0
def IntsAt (B:Nat) (w:World) (v:Value) (l:List Int):Prop:=
 l.length≤17592186044416∧(∀i,i<l.length→-9223372036854775808≤Xk l i∧Xk l i≤9223372036854775807)∧
 ∃a cap,v= .slice a l.length cap∧(0<l.length→∃b o,a=some ⟨b,o,none⟩∧b<B∧∀i,i<l.length→w.cell? ⟨b,o+i,none⟩=some (.int .i64 (Xk l i)))
def StrsAt (B:Nat) (w:World) (v:Value) (l:List ByteArray):Prop:=
 l.length≤8796093022208∧(∀i,i<l.length→(Xt l i).size≤140737488355328)∧
 ∃a cap,v= .slice a l.length cap∧(0<l.length→∃b o,a=some ⟨b,o,none⟩∧b<B∧∀i,i<l.length→w.cell? ⟨b,o+i,none⟩=some (.string (Xt l i)))
structure NodeIn (B:Nat) (w:World) (x:VN) (ka ki:Value):Prop where
 keys:StrsAt B w ka x.keys
 kids:IntsAt B w ki x.kids
 size:x.s.size≤140737488355328
 klo: -9223372036854775808≤x.kind
 khi:x.kind≤9223372036854775807
 nlo: -9223372036854775808≤x.n
 nhi:x.n≤9223372036854775807
structure NodeAt (B:Nat) (w:World) (b o:Nat) (x:VN) (ka ki:Value):Prop where
 c0:w.cell? ⟨b,o,none⟩=some (.int .i64 x.kind)
 c1:w.cell? ⟨b,o+1,none⟩=some (.int .i64 x.n)
 c2:w.cell? ⟨b,o+2,none⟩=some (.string x.s)
 c3:w.cell? ⟨b,o+3,none⟩=some ka
 c4:w.cell? ⟨b,o+4,none⟩=some ki
 inn:NodeIn B w x ka ki
def NodesAt (B:Nat) (w:World) (v:Value) (vs:List VN):Prop:=
 vs.length≤1759218604416∧∃a cap,v= .slice a vs.length cap∧(0<vs.length→∃b o,a=some ⟨b,o,none⟩∧b<B∧∀i,i<vs.length→∃ka ki,NodeAt B w b (o+i *5) (Xc vs i) ka ki)
theorem Xd {B:Nat} {w w':World} (h:Below B w w') {b o:Nat} (hb:b<B):w'.cell? ⟨b,o,none⟩=w.cell? ⟨b,o,none⟩:=h.cell (p:=⟨b,o,none⟩) hb
theorem IntsAt.below {B:Nat} {w w':World} {v:Value} {l:List Int} (h:IntsAt B w v l) (hb:Below B w w'):IntsAt B w' v l:=by
 obtain ⟨h1,h2,a,cap,e,h3⟩:=h
 refine ⟨h1,h2,a,cap,e,fun hl=> ?_⟩
 obtain ⟨b,o,ea,hbB,hc⟩:=h3 hl
 exact ⟨b,o,ea,hbB,fun i hi=>(Xd hb hbB).trans (hc i hi)⟩
theorem StrsAt.below {B:Nat} {w w':World} {v:Value} {l:List ByteArray} (h:StrsAt B w v l) (hb:Below B w w'):StrsAt B w' v l:=by
 obtain ⟨h1,h2,a,cap,e,h3⟩:=h
 refine ⟨h1,h2,a,cap,e,fun hl=> ?_⟩
 obtain ⟨b,o,ea,hbB,hc⟩:=h3 hl
 exact ⟨b,o,ea,hbB,fun i hi=>(Xd hb hbB).trans (hc i hi)⟩
theorem NodeIn.below {B:Nat} {w w':World} {x:VN} {ka ki:Value} (h:NodeIn B w x ka ki) (hb:Below B w w'):NodeIn B w' x ka ki:=
 {h with keys:=h.keys.below hb,kids:=h.kids.below hb}
theorem NodeAt.below {B:Nat} {w w':World} {b o:Nat} {x:VN} {ka ki:Value} (h:NodeAt B w b o x ka ki) (hb:Below B w w') (hB:b<B):NodeAt B w' b o x ka ki:=
 ⟨(Xd hb hB).trans h.c0,(Xd hb hB).trans h.c1,(Xd hb hB).trans h.c2,(Xd hb hB).trans h.c3,(Xd hb hB).trans h.c4,h.inn.below hb⟩
theorem NodesAt.below {B:Nat} {w w':World} {v:Value} {vs:List VN} (h:NodesAt B w v vs) (hb:Below B w w'):NodesAt B w' v vs:=by
 obtain ⟨h1,a,cap,e,h3⟩:=h
 refine ⟨h1,a,cap,e,fun hl=> ?_⟩
 obtain ⟨b,o,ea,hbB,hc⟩:=h3 hl
 refine ⟨b,o,ea,hbB,fun i hi=> ?_⟩
 obtain ⟨ka,ki,hn⟩:=hc i hi
 exact ⟨ka,ki,hn.below hb hbB⟩
theorem IntsAt.wide {B B':Nat} {w:World} {v:Value} {l:List Int} (h:IntsAt B w v l) (hb:B≤B'):IntsAt B' w v l:=by
 obtain ⟨h1,h2,a,cap,e,h3⟩:=h
 refine ⟨h1,h2,a,cap,e,fun hl=> ?_⟩
 obtain ⟨b,o,ea,hbB,hc⟩:=h3 hl
 exact ⟨b,o,ea,by omega,hc⟩
theorem StrsAt.wide {B B':Nat} {w:World} {v:Value} {l:List ByteArray} (h:StrsAt B w v l) (hb:B≤B'):StrsAt B' w v l:=by
 obtain ⟨h1,h2,a,cap,e,h3⟩:=h
 refine ⟨h1,h2,a,cap,e,fun hl=> ?_⟩
 obtain ⟨b,o,ea,hbB,hc⟩:=h3 hl
 exact ⟨b,o,ea,by omega,hc⟩
theorem NodeIn.wide {B B':Nat} {w:World} {x:VN} {ka ki:Value} (h:NodeIn B w x ka ki) (hb:B≤B'):NodeIn B' w x ka ki:=
 {h with keys:=h.keys.wide hb,kids:=h.kids.wide hb}
theorem NodeAt.wide {B B':Nat} {w:World} {b o:Nat} {x:VN} {ka ki:Value} (h:NodeAt B w b o x ka ki) (hb:B≤B'):NodeAt B' w b o x ka ki:=
 ⟨h.c0,h.c1,h.c2,h.c3,h.c4,h.inn.wide hb⟩
theorem NodesAt.wide {B B':Nat} {w:World} {v:Value} {vs:List VN} (h:NodesAt B w v vs) (hb:B≤B'):NodesAt B' w v vs:=by
 obtain ⟨h1,a,cap,e,h3⟩:=h
 refine ⟨h1,a,cap,e,fun hl=> ?_⟩
 obtain ⟨b,o,ea,hbB,hc⟩:=h3 hl
 refine ⟨b,o,ea,by omega,fun i hi=> ?_⟩
 obtain ⟨ka,ki,hn⟩:=hc i hi
 exact ⟨ka,ki,hn.wide hb⟩
structure Fits (x:VN):Prop where
 keysN:x.keys.length≤8796093022208
 keysS:∀i,i<x.keys.length→(Xt x.keys i).size≤140737488355328
 kidsN:x.kids.length≤17592186044416
 kidsB:∀i,i<x.kids.length→-9223372036854775808≤Xk x.kids i∧Xk x.kids i≤9223372036854775807
 size:x.s.size≤140737488355328
 klo: -9223372036854775808≤x.kind
 khi:x.kind≤9223372036854775807
 nlo: -9223372036854775808≤x.n
 nhi:x.n≤9223372036854775807
theorem Xb {p:Prop} (h:p):Hid p:=h
theorem Xj {a b:Bool} (h:a=b):Ending.returned (.bool a)= .returned (.bool b):=by rw[h]

def Xr6 (d:Int) (x:VN):VN:={x with kids:=x.kids.map (· +d)}
def run (vs:List VN) (d:Int) (a n:Nat):List VN:=(List.range' a n).map fun j=>Xr6 d (Xc vs j)
theorem Xcp (vs:List VN) (d:Int) (a n:Nat):(run vs d a n).length=n:=by simp[run]
theorem Xf1 (vs:List VN) (d:Int) (a m n:Nat):run vs d a m++run vs d (a+m) n=run vs d a (m+n):=by
 unfold run
 rw[←List.map_append]
 congr 1
 have:=List.range'_append (s:=a) (m:=m) (n:=n) (step:=1)
 simp
def Xf2 (T:Nat→Option (Nat×Nat)):List Int→Nat→Nat→Prop
 | [],lo,hi=>lo=hi
 |k::r,lo,hi=>∃c h:Nat,k=(c:Int)∧T c=some (lo,h)∧Xf2 T r (c+1) hi
theorem Xu2 {T:Nat→Option (Nat×Nat)}:∀(l:List Int) (hi h lo h':Nat),l.reverse.foldl (Xv T) (some (hi,h))=some (lo,h')→Xf2 T l lo hi:=by
 intro l
 induction l with
 |nil=>intro hi h lo h' e;simp at e;exact e.1.symm
 | cons k r ih =>
  intro hi h lo h' e
  rw[List.reverse_cons,List.foldl_append] at e
  cases hr:r.reverse.foldl (Xv T) (some (hi,h)) with
  |none=>rw[hr] at e;simp[Xv] at e
  | some q =>
   obtain ⟨b,g⟩:=q
   rw[hr] at e
   obtain ⟨p,h1,h2,h3,h4⟩:=Qz e
   simp at h4
   refine ⟨b-1,p.2,by omega, ?_, ?_⟩
   ·rw[h3,←h4.1]
   ·rw[show b-1+1=b by omega];exact ih hi h b g hr
theorem Xu3 {T:Nat→Option (Nat×Nat)} (hT:∀c p,T c=some p→p.1≤c):∀(l:List Int) (lo hi:Nat),Xf2 T l lo hi→lo≤hi:=by
 intro l
 induction l with
 |nil=>intro lo hi e;exact Nat.le_of_eq e
 | cons k r ih =>
  rintro lo hi ⟨c,h,_,h2,h3⟩
  have:=hT c _ h2
  have:=ih _ _ h3
  simp at *
  omega
def Gm (F:Nat→Nat→List VN) (sh:Nat):List Int→List VN→List Int→List VN×List Int
 | [],acc,ks=>(acc,ks)
 |k::r,acc,ks=>Gm F sh r (acc++F k.toNat (sh+acc.length)) (ks++ [((sh+(acc++F k.toNat (sh+acc.length)).length:Nat):Int)-1])
def lay (vs:List VN):Nat→Nat→Nat→List VN
 |0,_,_=> []
 | f + 1, i, sh =>
  let p:=Gm (lay vs f) sh (Xc vs i).kids [] []
  p.1++ [{Xc vs i with kids:=p.2}]
theorem Xlt {vs:List VN} {F:Nat→Nat→List VN} {T:Nat→Option (Nat×Nat)} (hT:∀c p,T c=some p→p.1≤c) {sh a:Nat}:∀(l:List Int) (lo hi:Nat) (ks:List Int),a≤lo→Xf2 T l lo hi→
  (∀(c lo h s:Nat),(c:Int)∈l→T c=some (lo,h)→F c s=run vs ((s:Int)-lo) lo (c+1-lo))→
  Gm F sh l (run vs ((sh:Int)-a) a (lo-a)) ks=(run vs ((sh:Int)-a) a (hi-a),ks++l.map (· +((sh:Int)-a))):=by
 intro l
 induction l with
 |nil=>intro lo hi ks hlo ht hF;obtain rfl:lo=hi:=ht;simp[Gm]
 | cons k r ih =>
  rintro lo hi ks hlo ⟨c,h,rfl,h2,h3⟩ hF
  have hc:=hT c _ h2
  simp at hc
  have hF1:=hF c lo h (sh+(lo-a)) (by simp) h2
  rw[Gm,Xcp,Int.toNat_natCast,hF1]
  rw[show (((sh+(lo-a):Nat):Int)-lo)=(sh:Int)-a by omega]
  have hrun:run vs ((sh:Int)-a) a (lo-a)++run vs ((sh:Int)-a) lo (c+1-lo)=run vs ((sh:Int)-a) a (c+1-a):=by
   have:=Xf1 vs ((sh:Int)-a) a (lo-a) (c+1-lo)
   rw[show a+(lo-a)=lo by omega,show lo-a+(c+1-lo)=c+1-a by omega] at this
   exact this
  rw[hrun,Xcp,ih (c+1) hi _ (by omega) h3 (fun c' lo' h' s hm=>hF c' lo' h' s (List.mem_cons_of_mem _ hm))]
  rw[show (((sh+(c+1-a):Nat):Int)-1)=(c:Int)+((sh:Int)-a) by omega]
  simp
theorem Xxz (vs:List VN):∀(f i sh a h:Nat),i<f→tr (Y2 vs) i=some (a,h)→lay vs f i sh=run vs ((sh:Int)-a) a (i+1-a):=by
 intro f
 induction f with
 |zero=>intro i sh a h hi;omega
 | succ f ih =>
  intro i sh a h hi e
  have hai:=Gw e
  simp at hai
  rw[Un] at e
  cases hf:(Y2 vs i).reverse.foldl (Xv (tr (Y2 vs))) (some (i,0)) with
  |none=>rw[hf] at e;simp at e
  | some q =>
   obtain ⟨a',h'⟩:=q
   rw[hf] at e
   simp at e
   obtain ⟨rfl,_⟩:=e
   have ht:=Xu2 _ _ _ _ _ hf
   have hmem:∀(l:List Int) (lo hi:Nat),Xf2 (tr (Y2 vs)) l lo hi→∀c:Nat,(c:Int)∈l→c<hi:=by
    intro l
    induction l with
    |nil=>intro lo hi _ c hc;cases hc
    | cons k r ihr =>
     rintro lo hi ⟨c',h'',rfl,_,h3⟩ c hc
     have hle:=Xu3 (fun m p hp=>Gw hp) _ _ _ h3
     rcases List.mem_cons.1 hc with e|e
     ·omega
     ·exact ihr _ _ h3 c e
   have hl:=Xlt (vs:=vs) (F:=lay vs f) (fun m p hp=>Gw hp) (sh:=sh) (a:=a') (Y2 vs i) a' i [] (Nat.le_refl _) ht (fun c lo g s hm hc=>ih c s lo g (by have:=hmem _ _ _ ht c hm;omega) hc)
   rw[show a'-a'=0 by omega] at hl
   have hz:run vs ((sh:Int)-a') a' 0= []:=rfl
   rw[hz] at hl
   rw[lay]
   show (Gm (lay vs f) sh (Y2 vs i) [] []).1++ [{Xc vs i with kids:=(Gm (lay vs f) sh (Y2 vs i) [] []).2}]=_
   rw[hl]
   have:=Xf1 vs ((sh:Int)-a') a' (i-a') 1
   rw[show a'+(i-a')=i by omega,show i-a'+1=i+1-a' by omega] at this
   rw[←this]
   simp[run,Xr6,Y2]


theorem Jp {P:Program} {w:World} {ops:Array Oper} {o:Oper} {a:Act} {K:Act→World→Prop} {Q:Exit→Act→World→Prop} {E:Prop} (hgd:o.guard=none) (F:FuncId) (x y:Operand) (T U:TypeId)
  (ho:o.op= .call {callee:= .value (.func F),args:= #[x,y],argTypes:= #[T,U]}) (v u:Value) (hx:a.eval x=v) (hy:a.eval y=u) (hcf:∀w,(callFunc F #[v,u]).run P w= .ok (.enter F #[v,u]) w) {R:Ending→World→Prop} (hc:Calls P F #[v,u] w R)
  (h:∀e w',R e w'→∃u,e= .returned u∧K (a.put o.dst u) w'):
  if Region.wanted o (yielded ops a.tmps)=true then Oper.wp P o a w K Q else E:=by
 have hw:Region.wanted o (yielded ops a.tmps)=true:=by simp[Region.wanted,hgd]
 rw[if_pos hw]
 unfold Oper.wp execOp
 have e1:a.eval (.func F)= .func (.func F) #[] #[]:=rfl
 simp[ho,resolve,invoke,hx,hy,e1,Deferred.ofValue,hcf,Result.andThen,Oper.upon_enter]
 refine hc.mono fun e w' hr=> ?_
 obtain ⟨u,rfl,hk⟩:=h e w' hr
 exact hk

theorem Xae {P:Program} {w:World} {ops:Array Oper} {o:Oper} {a:Act} {K:Act→World→Prop} {Q:Exit→Act→World→Prop} {E:Prop} (hgd:o.guard=none) (F:FuncId) (x:Operand) (T:TypeId)
  (ho:o.op= .call {callee:= .value (.func F),args:= #[x],argTypes:= #[T]}) (v:Value) (hx:a.eval x=v) (hcf:∀w,(callFunc F #[v]).run P w= .ok (.enter F #[v]) w) {R:Ending→World→Prop} (hc:Calls P F #[v] w R)
  (h:∀e w',R e w'→∃u,e= .returned u∧K (a.put o.dst u) w'):
  if Region.wanted o (yielded ops a.tmps)=true then Oper.wp P o a w K Q else E:=by
 have hw:Region.wanted o (yielded ops a.tmps)=true:=by simp[Region.wanted,hgd]
 rw[if_pos hw]
 unfold Oper.wp execOp
 have e1:a.eval (.func F)= .func (.func F) #[] #[]:=rfl
 simp[ho,resolve,invoke,hx,e1,Deferred.ofValue,hcf,Result.andThen,Oper.upon_enter]
 refine hc.mono fun e w' hr=> ?_
 obtain ⟨u,rfl,hk⟩:=h e w' hr
 exact hk

theorem Xcy {ops:Array Oper} {L:Array Bool} {i:Nat} (h:i∈Region.ready .any ops L):
  i<ops.size∧L.getD i true=false∧∀o,ops[i]? =some o→∀e∈o.after,Region.binds .any e=true→L.getD e.on false=true:=by
 unfold Region.ready at h
 rw[List.mem_filter,List.mem_range] at h
 obtain ⟨h1,h2⟩:=h
 rw[Bool.and_eq_true] at h2
 obtain ⟨h2,h3⟩:=h2
 refine ⟨h1,by simpa using h2,fun o ho e he hb=> ?_⟩
 rw[ho] at h3
 simp only[Option.map_some,Option.getD_some,Array.all_eq_true_iff_forall_mem] at h3
 have:=h3 e he
 rw[hb] at this
 simpa using this
theorem Xcz {ops:Array Oper} {L:Array Bool} {i:Nat} {o:Oper} (h1:L.getD i true=false) (ho:ops[i]? =some o) (h:∀e∈o.after,L.getD e.on false=true):i∈Region.ready .any ops L:=by
 unfold Region.ready
 rw[List.mem_filter,List.mem_range]
 refine ⟨(Array.getElem?_eq_some_iff.1 ho).1, ?_⟩
 rw[Bool.and_eq_true,ho]
 refine ⟨by simp[h1], ?_⟩
 simp only[Option.map_some,Option.getD_some,Array.all_eq_true_iff_forall_mem]
 intro e he
 simp[h e he]
def J8 (s0 N:Nat) (val:Nat→Value) (L:Array Bool) (a:Act):Act:=
 {a with tmps:=a.tmps.mapIdx fun t v=>if s0≤t∧t<s0+N∧L.getD (t-s0) false=true then val (t-s0) else v}
theorem Xss {s0 N:Nat} {val:Nat→Value} {L:Array Bool} {a:Act} {i:Nat} (hi:i<N) (hL:i<L.size):
  (J8 s0 N val L a).put (some (s0+i)) (val i)=J8 s0 N val (L.setIfInBounds i true) a:=by
 unfold J8 Act.put
 simp only[Act.mk.injEq,and_true]
 apply Array.ext_getElem?
 intro t
 rw[Array.getElem?_setIfInBounds]
 by_cases e:s0+i=t
 ·subst e
  by_cases hb:s0+i<a.tmps.size
  ·simp[hb,hi,Array.getD,hL]
  ·simp[hb]
 ·rw[if_neg e]
  simp only[Array.getElem?_mapIdx]
  congr 1
  funext v
  by_cases h:s0≤t∧t<s0+N
  ·have:(L.setIfInBounds i true).getD (t-s0) false=L.getD (t-s0) false:=by
    simp only[Array.getD_eq_getD_getElem?,Array.getElem?_setIfInBounds]
    rw[if_neg (by omega)]
   simp only[this]
  ·rw[if_neg (by omega),if_neg (by omega)]
theorem Xl1 {s0 N:Nat} {val:Nat→Value} {L:Array Bool} {a:Act} {t:Nat} (h1:s0≤t) (h2:t<s0+N) (h3:t<a.tmps.size) (hl:L.getD (t-s0) false=true):
  (J8 s0 N val L a).eval (.tmp t)=val (t-s0):=by
 simp only[J8,Act.eval,Array.getD_eq_getD_getElem?,Array.getElem?_mapIdx]
 rw[Array.getElem?_eq_getElem h3]
 simp only[Option.map_some,Option.getD_some]
 rw[if_pos ⟨h1,h2,by simpa [Array.getD_eq_getD_getElem?] using hl⟩]
theorem Xip {s0 N:Nat} {val:Nat→Value} {L:Array Bool} {a:Act} {t:Nat} (h:t<s0):(J8 s0 N val L a).eval (.tmp t)=a.eval (.tmp t):=by
 simp only[J8,Act.eval,Array.getD_eq_getD_getElem?,Array.getElem?_mapIdx]
 congr 1
 cases a.tmps[t]? with
 |none=>rfl
 |some v=>simp only[Option.map_some];rw[if_neg (by omega)]
theorem Xpo {s0 N:Nat} {val:Nat→Value} {L:Array Bool} {a:Act} (h:∀j,j<N→L.getD j false=false):J8 s0 N val L a=a:=by
 unfold J8
 cases a with
 | mk tmps defers =>
  simp only[Act.mk.injEq,and_true]
  apply Array.ext_getElem?
  intro t
  rw[Array.getElem?_mapIdx]
  cases tmps[t]? with
  |none=>rfl
  | some v =>
   simp only[Option.map_some]
   by_cases g:s0≤t∧t<s0+N
   ·rw[if_neg (fun e=>by rw[h _ (by omega)] at e;cases e.2.2)]
   ·rw[if_neg (fun e=>g ⟨e.1,e.2.1⟩)]
def left (N:Nat) (L:Array Bool):Nat:=((List.range N).filter fun i=> !L.getD i false).length
theorem Xwd {N i:Nat} {L:Array Bool} (hi:i<N) (hL:i<L.size) (h:L.getD i false=false):left N (L.setIfInBounds i true)<left N L:=by
 unfold left
 have e:(List.range N).filter (fun j=> !(L.setIfInBounds i true).getD j false)=((List.range N).filter fun j=> !L.getD j false).filter (fun j=>decide (j≠i)):=by
  rw[List.filter_filter]
  apply List.filter_congr
  intro j _
  simp only[Array.getD_eq_getD_getElem?,Array.getElem?_setIfInBounds]
  by_cases e:i=j
  ·subst e;simp[hL]
  ·rw[if_neg e]
   have:decide (j≠i)=true:=by simp;omega
   rw[this,Bool.true_and]
 rw[e]
 apply List.length_filter_lt_length_iff_exists.2
 exact ⟨i,by rw[List.mem_filter];exact ⟨List.mem_range.2 hi,by simp[h]⟩,by simp⟩
theorem Kg {L:Array Bool} {i:Nat} (h:i<L.size):L.getD i true=L.getD i false:=by simp[Array.getD,h]
theorem least {N:Nat} {L:Array Bool}:∀m,m≤N→(∀j,j<m→L.getD j false=true)∨∃i,i<m∧L.getD i false=false∧∀j,j<i→L.getD j false=true:=by
 intro m
 induction m with
 |zero=>intro _;left;intro j h;omega
 | succ m ih =>
  intro hm
  rcases ih (by omega) with h|⟨i,h1,h2,h3⟩
  ·cases hl:L.getD m false with
   | true => left; intro j hj; by_cases e : j = m
             ·subst e;exact hl
             ·exact h j (by omega)
   |false=>right;exact ⟨m,by omega,hl,h⟩
  ·right;exact ⟨i,by omega,h2,h3⟩
theorem phase {F:Fence} {n:Nat} {P:Program} {ops:Array Oper} {Q:Exit→Act→World→Prop} {s0 N:Nat} {val:Nat→Value} {a:Act} {W:World} (hsz:ops.size=N+2)
  (hd : ∀ i, i < N → ∃ o, ops[i]? = some o ∧ o.dst = some (s0 + i) ∧ o.guard = none ∧ (∀ c, o.op ≠ .defer c) ∧ (∀ e ∈ o.after, e.on < i ∧ Region.binds .any e = true) ∧
   ∀L:Array Bool,(∀e∈o.after,L.getD e.on false=true)→(execOp (J8 s0 N val L a).eval o).run P W= .ok (.value (val i)) W∧o.about P W (J8 s0 N val L a).eval=none)
  (hN:∃o,ops[N]? =some o∧(∀e∈o.after,e.on<N)∧∀j,j<N→∃e∈o.after,e.on=j∧Region.binds .any e=true)
  (hN1:∃o,ops[N+1]? =some o∧∃e∈o.after,e.on=N∧Region.binds .any e=true)
  (tail:∀fuel (L:Array Bool),L.size=N+2→(∀j,j<N→L.getD j false=true)→L.getD N true=false→L.getD (N+1) true=false→wpOpIn F n P ops Q N (wpAnyIn F n P .any ops Q (fuel+1) (L.setIfInBounds N true)) (J8 s0 N val L a) W):
  ∀fuel (L:Array Bool),L.size=N+2→L.getD N true=false→L.getD (N+1) true=false→left N L+2≤fuel→wpAnyIn F n P .any ops Q fuel L (J8 s0 N val L a) W:=by
 intro fuel
 induction fuel with
 |zero=>intro L _ _ _ h;omega
 | succ fuel ih =>
  intro L hL h0 h1 hf
  rw[wpAnyIn]
  constructor
  ·intro hr
   exfalso
   rcases least (L:=L) (N:=N) N (Nat.le_refl _) with hall|⟨i,hi,hl,hlt⟩
   ·obtain ⟨o,ho,ha,_⟩:=hN
    have:=Xcz (L:=L) h0 ho (fun e he=>hall _ (ha e he))
    rw[hr] at this
    cases this
   ·obtain ⟨o,ho,_,_,_,ha,_⟩:=hd i hi
    have:=Xcz (L:=L) (by rw[Kg (by omega)];exact hl) ho (fun e he=>hlt _ (ha e he).1)
    rw[hr] at this
    cases this
  ·intro i hi
   obtain ⟨hsi,hli,hdeps⟩:=Xcy hi
   by_cases hiN:i<N
   ·obtain ⟨o,ho,hdst,hg,hdf,ha,hrun⟩:=hd i hiN
    have hall:∀e∈o.after,L.getD e.on false=true:=fun e he=>hdeps o ho e he (ha e he).2
    obtain ⟨hx,hab⟩:=hrun L hall
    unfold wpOpIn
    rw[ho]
    simp only
    rw[show Region.wanted o (yielded ops (J8 s0 N val L a).tmps)=true by unfold Region.wanted;rw[hg]]
    simp only[if_true]
    unfold Oper.wpIn
    rw[Oper.semAt_eq _ _ _ hdf,hx,Oper.uponIn_value,hdst,Xss hiN (by omega)]
    refine ⟨fun f hf=>(by rw[hab] at hf;cases hf), ?_⟩
    have hl:L.getD i false=false:=by rw[←Kg (by omega)];exact hli
    have hlt:=Xwd hiN (by omega:i<L.size) hl
    refine ih (L.setIfInBounds i true) (by simpa using hL) ?_ ?_ (by omega)
    ·simp only[Array.getD_eq_getD_getElem?,Array.getElem?_setIfInBounds]
     rw[if_neg (by omega)]
     simpa [Array.getD_eq_getD_getElem?] using h0
    ·simp only[Array.getD_eq_getD_getElem?,Array.getElem?_setIfInBounds]
     rw[if_neg (by omega)]
     simpa [Array.getD_eq_getD_getElem?] using h1
   ·by_cases hiE:i=N
    ·subst hiE
     obtain ⟨o,ho,ha,hall⟩:=hN
     obtain ⟨m,rfl⟩:∃m,fuel=m+1:=⟨fuel-1,by omega⟩
     refine tail m L hL (fun j hj=> ?_) h0 h1
     obtain ⟨e,he,rfl,hb⟩:=hall j hj
     exact hdeps o ho e he hb
    ·exfalso
     obtain rfl:i=N+1:=by omega
     obtain ⟨o,ho,e,he,he2,hb⟩:=hN1
     have:=hdeps o ho e he hb
     rw[he2,←Kg (by omega),h0] at this
     cases this
theorem Xkp {F:Fence} {n:Nat} {P:Program} {ops:Array Oper} {Q:Exit→Act→World→Prop} {s0 N:Nat} {val:Nat→Value} {vN:Value} {a:Act} {W W':World} (hsz:ops.size=N+2) (hta:s0+N<a.tmps.size)
  (hd : ∀ i, i < N → ∃ o, ops[i]? = some o ∧ o.dst = some (s0 + i) ∧ o.guard = none ∧ (∀ c, o.op ≠ .defer c) ∧ (∀ e ∈ o.after, e.on < i ∧ Region.binds .any e = true) ∧
   ∀ρ:Operand→Value,(∀e∈o.after,ρ (.tmp (s0+e.on))=val e.on)→(∀t,t<s0→ρ (.tmp t)=a.eval (.tmp t))→(∀v,ρ (.const v)=v)→(execOp ρ o).run P W= .ok (.value (val i)) W∧o.about P W ρ=none)
  (hN : ∃ o, ops[N]? = some o ∧ o.dst = some (s0 + N) ∧ o.guard = none ∧ (∀ c, o.op ≠ .defer c) ∧ (∀ e ∈ o.after, e.on < N) ∧ (∀ j, j < N → ∃ e ∈ o.after, e.on = j ∧ Region.binds .any e = true) ∧
   ∀ρ:Operand→Value,(∀i,i<N→ρ (.tmp (s0+i))=val i)→(∀t,t<s0→ρ (.tmp t)=a.eval (.tmp t))→(execOp ρ o).run P W= .ok (.value vN) W∧o.about P W ρ=none)
  (hN1 : ∃ o, ops[N + 1]? = some o ∧ o.dst = none ∧ o.guard = none ∧ (∀ c, o.op ≠ .defer c) ∧ (∀ e ∈ o.after, e.on ≤ N) ∧ (∃ e ∈ o.after, e.on = N ∧ Region.binds .any e = true) ∧
   ∀ρ:Operand→Value,(∀i,i<N→ρ (.tmp (s0+i))=val i)→ρ (.tmp (s0+N))=vN→(∀t,t<s0→ρ (.tmp t)=a.eval (.tmp t))→(execOp ρ o).run P W= .ok .skip W'∧o.about P W ρ=none)
  (hQ:∀a',Q .normal a' W'):wpAnyIn F n P .any ops Q ops.size (Array.replicate ops.size false) a W:=by
 have key:=phase (F:=F) (n:=n) (P:=P) (ops:=ops) (Q:=Q) (s0:=s0) (N:=N) (val:=val) (a:=a) (W:=W) hsz ?hd' ?hN' ?hN1' ?tail ops.size (Array.replicate ops.size false) (by simp[hsz]) (by simp[Array.getD,hsz]) (by simp[Array.getD,hsz]) ?cnt
 ·rw[Xpo (fun j hj=>by simp[Array.getD])] at key
  exact key
 case hd'=>
  intro i hi
  obtain ⟨o,h1,h2,h3,h4,h5,h6⟩:=hd i hi
  refine ⟨o,h1,h2,h3,h4,h5,fun L hL=>h6 _ (fun e he=> ?_) (fun t ht=>Xip ht) (fun v=>rfl)⟩
  have:=(h5 e he).1
  rw[Xl1 (by omega) (by omega) (by omega) (by rw[show s0+e.on-s0=e.on by omega];exact hL e he),show s0+e.on-s0=e.on by omega]
 case hN'=>
  obtain ⟨o,h1,_,_,_,h5,h6,_⟩:=hN
  exact ⟨o,h1,h5,h6⟩
 case hN1'=>
  obtain ⟨o,h1,_,_,_,_,h6,_⟩:=hN1
  exact ⟨o,h1,h6⟩
 case cnt=>
  unfold left
  have:=List.length_filter_le (fun i=> !(Array.replicate ops.size false).getD i false) (List.range N)
  rw[List.length_range] at this
  omega
 case tail=>
  intro fuel L hL hall h0 h1
  have hev:∀i,i<N→(J8 s0 N val L a).eval (.tmp (s0+i))=val i:=fun i hi=>by
   rw[Xl1 (by omega) (by omega) (by omega) (by rw[show s0+i-s0=i by omega];exact hall i hi),show s0+i-s0=i by omega]
  have hlo:∀t,t<s0→(J8 s0 N val L a).eval (.tmp t)=a.eval (.tmp t):=fun t ht=>Xip ht
  obtain ⟨o,g1,g2,g3,g4,g5,g6,g7⟩:=hN
  obtain ⟨r1,r2⟩:=g7 _ hev hlo
  unfold wpOpIn
  rw[g1]
  simp only
  rw[show Region.wanted o (yielded ops (J8 s0 N val L a).tmps)=true by unfold Region.wanted;rw[g3]]
  simp only[if_true]
  unfold Oper.wpIn
  rw[Oper.semAt_eq _ _ _ g4,r1,Oper.uponIn_value,g2]
  refine ⟨fun f hf=>(by rw[r2] at hf;cases hf), ?_⟩
  have hfs:(J8 s0 N val L a).tmps.size=a.tmps.size:=by simp[J8]
  have hev':∀i,i<N→((J8 s0 N val L a).put (some (s0+N)) vN).eval (.tmp (s0+i))=val i:=fun i hi=>by
   rw[←hev i hi]
   simp only[Act.put,Act.eval,Array.getD_eq_getD_getElem?,Array.getElem?_setIfInBounds]
   rw[if_neg (by omega)]
  have hevN:((J8 s0 N val L a).put (some (s0+N)) vN).eval (.tmp (s0+N))=vN:=by
   simp only[Act.put,Act.eval,Array.getD_eq_getD_getElem?,Array.getElem?_setIfInBounds]
   rw[if_pos trivial,if_pos (by omega)]
   rfl
  have hlo':∀t,t<s0→((J8 s0 N val L a).put (some (s0+N)) vN).eval (.tmp t)=a.eval (.tmp t):=fun t ht=>by
   rw[←hlo t ht]
   simp only[Act.put,Act.eval,Array.getD_eq_getD_getElem?,Array.getElem?_setIfInBounds]
   rw[if_neg (by omega)]
  generalize (J8 s0 N val L a).put (some (s0+N)) vN=a2 at *
  obtain ⟨o',k1,k2,k3,k4,k5,k6,k7⟩:=hN1
  obtain ⟨q1,q2⟩:=k7 _ hev' hevN hlo'
  have hL2:∀j,j≤N→(L.setIfInBounds N true).getD j false=true:=fun j hj=>by
   simp only[Array.getD_eq_getD_getElem?,Array.getElem?_setIfInBounds]
   by_cases e:N=j
   ·rw[if_pos e,if_pos (by omega)];rfl
   ·rw[if_neg e]
    have:=hall j (by omega)
    rw[Array.getD_eq_getD_getElem?] at this
    exact this
  have hL1:(L.setIfInBounds N true).getD (N+1) true=false:=by
   simp only[Array.getD_eq_getD_getElem?,Array.getElem?_setIfInBounds]
   rw[if_neg (by omega)]
   rw[Array.getD_eq_getD_getElem?] at h1
   exact h1
  have hs2:(L.setIfInBounds N true).size=N+2:=by simpa using hL
  generalize L.setIfInBounds N true=L2 at *
  rw[wpAnyIn]
  refine ⟨fun hr=> ?_,fun i hi=> ?_⟩
  ·exfalso
   have:=Xcz (L:=L2) hL1 k1 (fun e he=>hL2 _ (k5 e he))
   rw[hr] at this
   cases this
  ·obtain ⟨m1,m2,_⟩:=Xcy hi
   obtain rfl:i=N+1:=by
    by_cases e:i≤N
    ·have:=hL2 i e
     rw[←Kg (by omega),m2] at this
     cases this
    ·omega
   unfold wpOpIn
   rw[k1]
   simp only
   rw[show Region.wanted o' (yielded ops a2.tmps)=true by unfold Region.wanted;rw[k3]]
   simp only[if_true]
   unfold Oper.wpIn
   rw[Oper.semAt_eq _ _ _ k4,q1,Oper.uponIn_skip]
   refine ⟨fun f hf=>(by rw[q2] at hf;cases hf), ?_⟩
   refine wpAnyIn_done ?_ (hQ _) _
   apply List.eq_nil_iff_forall_not_mem.2
   intro i hi
   obtain ⟨m1,m2,_⟩:=Xcy hi
   have:(L2.setIfInBounds (N+1) true).getD i true=true:=by
    simp only[Array.getD_eq_getD_getElem?,Array.getElem?_setIfInBounds]
    by_cases e:N+1=i
    ·rw[if_pos e,if_pos (by omega)];rfl
    ·rw[if_neg e]
     have h3:=hL2 i (by omega)
     rw[←Kg (by omega),Array.getD_eq_getD_getElem?] at h3
     exact h3
   rw[this] at m2
   cases m2

def Xh (L:List UInt8) (p:Nat):Nat:=(L.getD p 0).toNat
theorem Jt (L:List UInt8) (p:Nat):Xh L p<256:=(L.getD p 0).toNat_lt
def Xab (L:List UInt8) (p n:Nat):ByteArray:=txt ((L.drop p).take n)

def Xe (L:List UInt8) (p c:Nat):Bool:=decide (p<L.length)&&decide (Xh L p=c)
theorem Xl {L:List UInt8} {p c:Nat}:Xe L p c=true↔p<L.length∧Xh L p=c:=by unfold Xe;simp
theorem X7 {L:List UInt8} {p c:Nat}:Xe L p c=false↔¬(p<L.length∧Xh L p=c):=by unfold Xe;simp
def U6 (P:Nat→Bool) (L:List UInt8):Nat→Nat→Nat
 |0,p=>p
 |f+1,p=>if P (Xh L p)=true then U6 P L f (p+1) else p
def Ky (P:Nat→Bool) (L:List UInt8) (p:Nat):Nat:=U6 P L (L.length-p) p
theorem Kb {P:Nat→Bool} {L:List UInt8} {p:Nat} (h:p<L.length) (hb:P (Xh L p)=true):Ky P L p=Ky P L (p+1):=by
 unfold Ky
 rw[show L.length-p=L.length-(p+1)+1 by omega,U6,if_pos hb]
theorem Q1 {P:Nat→Bool} {L:List UInt8} {p:Nat} (h:¬(p<L.length∧P (Xh L p)=true)):Ky P L p=p:=by
 unfold Ky
 by_cases hp:p<L.length
 ·rw[show L.length-p=L.length-(p+1)+1 by omega,U6,if_neg (fun e=>h ⟨hp,e⟩)]
 ·rw[show L.length-p=0 by omega,U6]
theorem Xbb (P:Nat→Bool) (L:List UInt8):∀f p,p≤U6 P L f p∧U6 P L f p≤p+f∧(∀j,p≤j→j<U6 P L f p→P (Xh L j)=true)∧(U6 P L f p<p+f→P (Xh L (U6 P L f p))=false):=by
 intro f
 induction f with
 |zero=>intro p;exact ⟨Nat.le_refl _,Nat.le_refl _,fun j h1 h2=>by rw[U6] at h2;omega,fun h=>by rw[U6] at h;omega⟩
 | succ f ih =>
  intro p
  rw[U6]
  by_cases h:P (Xh L p)=true
  ·rw[if_pos h]
   obtain ⟨a1,a2,a3,a4⟩:=ih (p+1)
   refine ⟨by omega,by omega,fun j h1 h2=> ?_,fun h2=>a4 (by omega)⟩
   by_cases e:j=p
   ·rw[e];exact h
   ·exact a3 j (by omega) h2
  ·rw[if_neg h]
   exact ⟨Nat.le_refl _,by omega,fun j h1 h2=>by omega,fun _=>by simpa using h⟩
theorem Zh (P:Nat→Bool) (L:List UInt8) (p:Nat):p≤Ky P L p:=(Xbb P L _ p).1
theorem U7 {P:Nat→Bool} {L:List UInt8} {p:Nat} (h:p≤L.length):Ky P L p≤L.length:=by have:=(Xbb P L (L.length-p) p).2.1;unfold Ky;omega
theorem Xl7 {P:Nat→Bool} {L:List UInt8} {p j:Nat} (h1:p≤j) (h2:j<Ky P L p):P (Xh L j)=true:=(Xbb P L _ p).2.2.1 j h1 h2
theorem Xtm {P:Nat→Bool} {L:List UInt8} {p:Nat} (h:Ky P L p<L.length):P (Xh L (Ky P L p))=false:=by
 refine (Xbb P L (L.length-p) p).2.2.2 ?_
 have:=Zh P L p
 unfold Ky at h this
 omega
theorem Xqk (P:Nat→Bool) (L:List UInt8) (p:Nat):Ky P L (Ky P L p)=Ky P L p:=by
 refine Q1 (fun h=> ?_)
 have:=Xtm h.1
 rw[h.2] at this
 cases this
theorem Xbc {P:Nat→Bool} {L:List UInt8} {p:Nat} (h:L.length≤p):Ky P L p=p:=Q1 (fun e=>by omega)
def Zn (c:Nat):Bool:=decide (48≤c∧c≤57)
abbrev dgJ (L:List UInt8) (p:Nat):Nat:=Ky Zn L p
def X3 (L:List UInt8) (p:Nat):Nat→Nat
 |0=>0
 |k+1=>10 *X3 L p k+(Xh L (p+k)-48)
theorem Xql (L:List UInt8) (p:Nat):∀{k m:Nat},k≤m→X3 L p k≤X3 L p m:=by
 intro k m h
 induction h with
 |refl=>exact Nat.le_refl _
 |step _ ih=>rw[X3];omega
def Yc (L:List UInt8) (p:Nat):Nat:=if Xe L p 45=true then p+1 else p
def Xbk (L:List UInt8) (p:Nat):Option (Int×Nat):=
 if dgJ L (Yc L p)=Yc L p∨(Yc L p+1<dgJ L (Yc L p)∧Xh L (Yc L p)=48)∨1000000000000000<X3 L (Yc L p) (dgJ L (Yc L p)-Yc L p) then none
 else some (if Xe L p 45=true then-((X3 L (Yc L p) (dgJ L (Yc L p)-Yc L p):Nat):Int) else ((X3 L (Yc L p) (dgJ L (Yc L p)-Yc L p):Nat):Int),dgJ L (Yc L p))
def Qp (L:List UInt8) (p:Nat) (w:List UInt8):Bool:=decide ((L.drop p).take w.length=w)
def Xic:List UInt8:= [110,117,108,108]
def Xid:List UInt8:= [116,114,117,101]
def Xfl:List UInt8:= [102,97,108,115,101]
theorem Xqm {L:List UInt8} {p:Nat} {w:List UInt8} (h:Qp L p w=true) (hw:w≠ []):p+w.length≤L.length:=by
 unfold Qp at h
 simp only[decide_eq_true_eq] at h
 have:=congrArg List.length h
 rw[List.length_take,List.length_drop] at this
 have:0<w.length:=by cases w;exact absurd rfl hw;simp
 omega
def Uq (c:Nat):Option Nat:=
 if c=34 then some 34 else if c=92 then some 92 else if c=47 then some 47 else if c=98 then some 8 else if c=102 then some 12 else if c=110 then some 10 else if c=114 then some 13 else if c=116 then some 9 else none
def Kp (c:Nat):Option Nat:=if 48≤c∧c≤57 then some (c-48) else if 97≤c∧c≤102 then some (c-87) else if 65≤c∧c≤70 then some (c-55) else none
theorem Xl8 {c d:Nat} (h:Kp c=some d):d<16:=by
 unfold Kp at h
 split at h
 ·simp at h;omega
 ·split at h
  ·simp at h;omega
  ·split at h
   ·simp at h;omega
   ·cases h
def Qk (L:List UInt8) (p:Nat):Nat→Option Nat
 |0=>some 0
 | k + 1 => match Qk L p k with
  |none=>none
  | some v => match Kp (Xh L (p + k)) with
   |none=>none
   |some d=>some (16 *v+d)
theorem Xww (L:List UInt8) (p:Nat):∀{k v:Nat},Qk L p k=some v→v<16^k:=by
 intro k
 induction k with
 |zero=>intro v h;simp[Qk] at h;omega
 | succ k ih =>
  intro v h
  rw[Qk] at h
  cases e:Qk L p k with
  |none=>simp[e] at h
  | some u =>
   simp only[e] at h
   cases e2:Kp (Xh L (p+k)) with
   |none=>simp[e2] at h
   | some d =>
    simp only[e2,Option.some.injEq] at h
    have:=ih e
    have:=Xl8 e2
    rw[Nat.pow_succ]
    omega
def Ku (L:List UInt8) (p:Nat):Option (Nat×Nat):=
 if L.length<p+4 then none else match Qk L p 4 with
  |none=>none
  |some v=>if 127<v then none else some (v,p+4)
theorem Xhc {L:List UInt8} {p k v d:Nat} (h:Qk L p k=some v) (hd:Kp (Xh L (p+k))=some d):Qk L p (k+1)=some (16 *v+d):=by rw[Qk,h];simp only[hd]
theorem Xdb {L:List UInt8} {p k:Nat} (h:Qk L p k=none):∀m,k≤m→Qk L p m=none:=by
 intro m hm
 induction hm with
 |refl=>exact h
 |step _ ih=>rw[Qk,ih]
theorem Xhd {L:List UInt8} {p k v m:Nat} (h:Qk L p k=some v) (hd:Kp (Xh L (p+k))=none) (hm:k<m):Qk L p m=none:=Xdb (k:=k+1) (by rw[Qk,h];simp only[hd]) m (by omega)
theorem Xd6 {L:List UInt8} {p:Nat} (h:L.length<p+4):Ku L p=none:=by unfold Ku;rw[if_pos h]
theorem Xen {L:List UInt8} {p:Nat} (h:Qk L p 4=none):Ku L p=none:=by unfold Ku;rw[h];split<;>rfl
theorem Xhe {L:List UInt8} {p v:Nat} (h:Qk L p 4=some v) (hv:127<v):Ku L p=none:=by
 unfold Ku
 split
 ·rfl
 ·rw[h];simp only[if_pos hv]
theorem Xdc {L:List UInt8} {p v:Nat} (hp:p+4≤L.length) (h:Qk L p 4=some v) (hv:v≤127):Ku L p=some (v,p+4):=by
 unfold Ku
 rw[if_neg (by omega),h]
 simp only[if_neg (by omega:¬127<v)]
def Z1 (L:List UInt8) (p:Nat):Option (Nat×Nat):=
 if L.length≤p then none else match Uq (Xh L p) with
  |some b=>some (b,p+1)
  |none=>if Xh L p=117 then Ku L (p+1) else none
theorem Wp {L:List UInt8} {p b q:Nat} (h:Z1 L p=some (b,q)):p<q∧q≤L.length∧b≤127:=by
 unfold Z1 at h
 split at h
 ·cases h
 ·rename_i hp
  cases e:Uq (Xh L p) with
  | some b' =>
   simp only[e,Option.some.injEq,Prod.mk.injEq] at h
   obtain ⟨rfl,rfl⟩:=h
   refine ⟨by omega,by omega, ?_⟩
   unfold Uq at e
   repeat (split at e;· simp at e;omega)
   cases e
  | none =>
   simp only[e] at h
   split at h
   ·unfold Ku at h
    split at h
    ·cases h
    ·rename_i h4
     cases e2:Qk L (p+1) 4 with
     |none=>simp[e2] at h
     | some v =>
      simp only[e2] at h
      split at h
      ·cases h
      ·rename_i hv
       simp only[Option.some.injEq,Prod.mk.injEq] at h
       obtain ⟨rfl,rfl⟩:=h
       exact ⟨by omega,by omega,by omega⟩
   ·cases h
def Ge (L : List UInt8) : Nat → Nat → Option (List UInt8 × Nat)
 |0,_=>none
 | f + 1, p => if Xh L p = 34 then some ([], p + 1)
  else if Xh L p=92 then match Z1 L (p+1) with
   |none=>none
   | some (b, q) => match Ge L f q with
    |none=>none
    |some (l,z)=>some (UInt8.ofNat b::l,z)
  else if Xh L p<32∨127<Xh L p then none
  else match Ge L f (p+1) with
   |none=>none
   |some (l,z)=>some (UInt8.ofNat (Xh L p)::l,z)
def txJ (L:List UInt8) (p:Nat):Option (List UInt8×Nat):=Ge L (L.length-p) p
theorem Q2 {L:List UInt8} {p:Nat} (h:L.length≤p):Xh L p=0:=by
 unfold Xh
 rw[List.getD_eq_getElem?_getD,List.getElem?_eq_none h];rfl
theorem Ur {L:List UInt8} {p:Nat} (h:L.length≤p) (f:Nat):Ge L f p=none:=by
 cases f with
 |zero=>rfl
 |succ f=>rw[Ge,Q2 h];rfl
theorem Xnj (L:List UInt8):∀m p f g,L.length-p≤m→L.length-p≤f→L.length-p≤g→Ge L f p=Ge L g p:=by
 intro m
 induction m with
 |zero=>intro p f g h _ _;rw[Ur (by omega),Ur (by omega)]
 | succ m ih =>
  intro p f g h hf hg
  by_cases hp:L.length≤p
  ·rw[Ur hp,Ur hp]
  ·obtain ⟨f,rfl⟩:∃f',f=f'+1:=⟨f-1,by omega⟩
   obtain ⟨g,rfl⟩:∃g',g=g'+1:=⟨g-1,by omega⟩
   have key:∀q,p<q→Ge L f q=Ge L g q:=fun q hq=>ih q f g (by omega) (by omega) (by omega)
   rw[Ge,Ge,key (p+1) (by omega)]
   cases e:Z1 L (p+1) with
   |none=>rfl
   | some x =>
    obtain ⟨b,q⟩:=x
    have:=Wp e
    dsimp only
    rw[key q (by omega)]
theorem Gs {L:List UInt8} {p:Nat} (h:p<L.length):txJ L p=if Xh L p=34 then some ([],p+1)
  else if Xh L p=92 then match Z1 L (p+1) with
   |none=>none
   | some (b, q) => match txJ L q with
    |none=>none
    |some (l,z)=>some (UInt8.ofNat b::l,z)
  else if Xh L p<32∨127<Xh L p then none
  else match txJ L (p+1) with
   |none=>none
   |some (l,z)=>some (UInt8.ofNat (Xh L p)::l,z):=by
 have e1:Ge L (L.length-(p+1)) (p+1)=txJ L (p+1):=rfl
 conv=>lhs;unfold txJ
 rw[show L.length-p=L.length-(p+1)+1 by omega,Ge,e1]
 cases e:Z1 L (p+1) with
 |none=>rfl
 | some x =>
  obtain ⟨b,q⟩:=x
  have:=Wp e
  dsimp only
  rw[Xnj L L.length q (L.length-(p+1)) (L.length-q) (by omega) (by omega) (by omega)]
  rfl
theorem Xb8 {L:List UInt8} {p:Nat} (h:L.length≤p):txJ L p=none:=Ur h _
theorem Xi5 {L:List UInt8}:∀m p l q,L.length-p≤m→txJ L p=some (l,q)→p<q∧q≤L.length∧l.length<q-p∧∀c∈l,c.toNat≤127:=by
 intro m
 induction m with
 |zero=>intro p l q h e;rw[Xb8 (by omega)] at e;cases e
 | succ m ih =>
  intro p l q h e
  by_cases hp:L.length≤p
  ·rw[Xb8 hp] at e;cases e
  ·rw [Gs (by omega)] at e
   split at e
   ·simp only[Option.some.injEq,Prod.mk.injEq] at e
    obtain ⟨rfl,rfl⟩:=e
    exact ⟨by omega,by omega,by simp,fun c hc=>absurd hc (by simp)⟩
   ·split at e
    ·cases e1:Z1 L (p+1) with
     |none=>simp[e1] at e
     | some x =>
      obtain ⟨b,z⟩:=x
      simp only[e1] at e
      obtain ⟨a1,a2,a3⟩:=Wp e1
      cases e2:txJ L z with
      |none=>simp[e2] at e
      | some y =>
       obtain ⟨l2,z2⟩:=y
       simp only[e2,Option.some.injEq,Prod.mk.injEq] at e
       obtain ⟨rfl,rfl⟩:=e
       obtain ⟨b1,b2,b3,b4⟩:=ih z l2 z2 (by omega) e2
       refine ⟨by omega,b2,by simp;omega,fun c hc=> ?_⟩
       rcases List.mem_cons.1 hc with rfl|hc
       ·rw[UInt8.toNat_ofNat'];omega
       ·exact b4 c hc
    ·split at e
     ·cases e
     ·rename_i hr
      cases e2:txJ L (p+1) with
      |none=>simp[e2] at e
      | some y =>
       obtain ⟨l2,z2⟩:=y
       simp only[e2,Option.some.injEq,Prod.mk.injEq] at e
       obtain ⟨rfl,rfl⟩:=e
       obtain ⟨b1,b2,b3,b4⟩:=ih (p+1) l2 z2 (by omega) e2
       refine ⟨by omega,b2,by simp;omega,fun c hc=> ?_⟩
       rcases List.mem_cons.1 hc with rfl|hc
       ·rw[UInt8.toNat_ofNat'];omega
       ·exact b4 c hc

def Uw (d:List UInt8):Prop:=∀j,j<d.length→Zn (Xh d j)=true
instance (d:List UInt8):Decidable (Uw d):=by unfold Uw;infer_instance
def U9 (neg:Bool) (d:List UInt8):Option Int:=
 if d.length<1∨16<d.length∨(Xh d 0=48∧(1<d.length∨neg=true))∨¬Uw d∨1000000000000000<X3 d 0 d.length then none
 else some (if neg=true then-((X3 d 0 d.length:Nat):Int) else ((X3 d 0 d.length:Nat):Int))
def Wa (l:List UInt8):Bool:=decide (1<l.length∧Xh l 0=45)
def Q6 (l:List UInt8):Option Int:=if Wa l=true then U9 true (l.drop 1) else U9 false l
theorem Xjr {l:List UInt8} (h:Wa l=true):Q6 l=U9 true (l.drop 1):=by unfold Q6;rw[if_pos h]
theorem Xeu {l:List UInt8} (h:Wa l=false):Q6 l=U9 false l:=by unfold Q6;rw[if_neg (by rw[h];simp)]
theorem Xby {neg:Bool} {d:List UInt8} (h:d.length<1∨16<d.length∨(Xh d 0=48∧(1<d.length∨neg=true))∨¬Uw d∨1000000000000000<X3 d 0 d.length):U9 neg d=none:=by unfold U9;rw[if_pos h]
theorem Xcf {neg:Bool} {d:List UInt8} (h:¬(d.length<1∨16<d.length∨(Xh d 0=48∧(1<d.length∨neg=true))∨¬Uw d∨1000000000000000<X3 d 0 d.length)):U9 neg d=some (if neg=true then-((X3 d 0 d.length:Nat):Int) else ((X3 d 0 d.length:Nat):Int)):=by unfold U9;rw[if_neg h]
theorem V2 {L:List UInt8} {q m j:Nat} (h:j<m):Xh ((L.drop q).take m) j=Xh L (q+j):=by
 unfold Xh
 rw[List.getD_eq_getElem?_getD,List.getD_eq_getElem?_getD,List.getElem?_take,if_pos h,List.getElem?_drop]
theorem Xuj {L:List UInt8} {q m:Nat}:∀{k:Nat},k≤m→X3 ((L.drop q).take m) 0 k=X3 L q k:=by
 intro k
 induction k with
 |zero=>intro _;rfl
 |succ k ih=>intro h;rw[X3,X3,ih (by omega),Nat.zero_add,V2 (by omega)]
theorem Xev {L:List UInt8} {q:Nat}:∀{k:Nat},48<Xh L q→10^k≤X3 L q (k+1):=by
 intro k h
 induction k with
 |zero=>rw[X3,X3];simp;omega
 |succ k ih=>rw[X3,Nat.pow_succ];omega
theorem Xjs {L:List UInt8} {q:Nat}:∀{k:Nat},(∀j,j<k→Zn (Xh L (q+j))=true)→X3 L q k<10^k:=by
 intro k
 induction k with
 |zero=>intro _;simp[X3]
 | succ k ih =>
  intro h
  have h1:=ih (fun j hj=>h j (by omega))
  have h2:=h k (by omega)
  unfold Zn at h2
  simp only[decide_eq_true_eq] at h2
  rw[X3,Nat.pow_succ]
  omega
theorem Xmi {L:List UInt8} {q m:Nat} (h:q+m≤L.length):((L.drop q).take m).length=m:=by
 rw[List.length_take,List.length_drop];omega
theorem Xrf {L:List UInt8} {q m:Nat} (h0:48<Xh L q) (hm:16<m):1000000000000000<X3 L q m:=by
 have h1:=Xev (k:=16) h0
 have h2:=Xql L q (show 16+1≤m by omega)
 have:(1000000000000000:Nat)<10^16:=by decide
 omega
theorem Xmj {L:List UInt8} {q z:Nat} {neg:Bool} (hz:dgJ L q=z) (hq:q≤L.length) (hn:neg=true→¬(z=q+1∧Xh L q=48)):
  U9 neg ((L.drop q).take (z-q))=if z=q∨(q+1<z∧Xh L q=48)∨1000000000000000<X3 L q (z-q) then none else some (if neg=true then-((X3 L q (z-q):Nat):Int) else ((X3 L q (z-q):Nat):Int)):=by
 have hge:q≤z:=by rw[←hz];exact Zh _ _ _
 have hle:z≤L.length:=by rw[←hz];exact U7 hq
 have hin:∀j,j<z-q→Zn (Xh L (q+j))=true:=fun j hj=>Xl7 (p:=q) (by omega) (by show q+j<dgJ L q;rw[hz];omega)
 have hl:=Xmi (L:=L) (q:=q) (m:=z-q) (by omega)
 by_cases h0:z=q
 ·rw[if_pos (.inl h0),Xby (.inl (by omega))]
 have hb0:Xh ((L.drop q).take (z-q)) 0=Xh L q:=V2 (by omega)
 have hdg:Uw ((L.drop q).take (z-q)):=fun j hj=>by rw[hl] at hj;rw[V2 hj];exact hin j hj
 have hval:X3 ((L.drop q).take (z-q)) 0 ((L.drop q).take (z-q)).length=X3 L q (z-q):=by rw[hl];exact Xuj (Nat.le_refl _)
 have h48:=hin 0 (by omega)
 unfold Zn at h48
 simp only[decide_eq_true_eq,Nat.add_zero] at h48
 by_cases hbad:(q+1<z∧Xh L q=48)∨1000000000000000<X3 L q (z-q)
 ·rw[if_pos (.inr hbad)]
  refine Xby ?_
  rw[hval,hl,hb0]
  rcases hbad with h|h
  ·exact .inr (.inr (.inl ⟨h.2, .inl (by omega)⟩))
  ·exact .inr (.inr (.inr (.inr h)))
 ·rw[if_neg (fun h=>by rcases h with h|h;exact h0 h;exact hbad h)]
  rw[Xcf,hval]
  rw[hval,hl,hb0]
  rintro (h|h|⟨h,h1⟩|h|h)
  ·omega
  ·by_cases h1:Xh L q=48
   ·exact hbad (.inl ⟨by omega,h1⟩)
   ·exact hbad (.inr (Xrf (by omega) h))
  ·rcases h1 with h1|h1
   ·exact hbad (.inl ⟨by omega,h⟩)
   ·by_cases h2:z=q+1
    ·exact hn h1 ⟨h2,h⟩
    ·exact hbad (.inl ⟨by omega,h⟩)
  ·exact h hdg
  ·exact hbad (.inr h)
def Jb (L:List UInt8) (p:Nat):List UInt8:=(L.drop p).take (dgJ L (Yc L p)-p)
theorem Wb (L:List UInt8) (p:Nat):p≤Yc L p:=by unfold Yc;split<;>omega
theorem Xcg {L:List UInt8} {p:Nat} (h:p≤L.length):Yc L p≤L.length:=by
 unfold Yc
 split
 ·rename_i e;have:=(Xl.1 e).1;omega
 ·exact h
theorem Xuk {L:List UInt8} {p:Nat} (hp:p≤L.length):(Jb L p= [45,48]→Xbk L p=some (0,dgJ L (Yc L p)))∧(Jb L p≠ [45,48]→Xbk L p=match Q6 (Jb L p) with|none=>none|some v=>some (v,dgJ L (Yc L p))):=by
 obtain ⟨q,hq⟩:∃q,Yc L p=q:=⟨_,rfl⟩
 obtain ⟨z,hz⟩:∃z,dgJ L q=z:=⟨_,rfl⟩
 have hge:q≤z:=by rw[←hz];exact Zh _ _ _
 have hql:q≤L.length:=by rw[←hq];exact Xcg hp
 have hle:z≤L.length:=by rw[←hz];exact U7 hql
 have hw:Jb L p=(L.drop p).take (z-p):=by unfold Jb;rw[hq,hz]
 have hpq:=Wb L p
 have hlen:=Xmi (L:=L) (q:=p) (m:=z-p) (by omega)
 have hnum:Xbk L p=if z=q∨(q+1<z∧Xh L q=48)∨1000000000000000<X3 L q (z-q) then none else some (if Xe L p 45=true then-((X3 L q (z-q):Nat):Int) else ((X3 L q (z-q):Nat):Int),z):=by unfold Xbk;rw[hq,hz]
 have hin:∀j,j<z-q→Zn (Xh L (q+j))=true:=fun j hj=>Xl7 (p:=q) (by omega) (by show q+j<dgJ L q;rw[hz];omega)
 rw[hw,hq,hz]
 by_cases hn:Xe L p 45=true
 ·have hq1:q=p+1:=by rw[←hq];unfold Yc;rw[if_pos hn]
  have h45:=(Xl.1 hn).2
  refine ⟨fun h=> ?_,fun h=> ?_⟩
  ·have hl2:z-p=2:=by rw[h] at hlen;simpa using hlen.symm
   have h48:Xh L q=48:=by
    have:=V2 (L:=L) (q:=p) (m:=z-p) (j:=1) (by omega)
    rw[h] at this
    rw[hq1,←this];rfl
   have hv:X3 L q (z-q)=0:=by rw[show z-q=1 by omega,X3,X3,Nat.add_zero,h48]
   rw[hnum,hv,if_neg (by omega)]
   simp
  ·by_cases hzq:z=q
   ·rw[hnum,if_pos (.inl hzq)]
    have hng:Wa ((L.drop p).take (z-p))=false:=by unfold Wa;rw[hlen];simp;omega
    rw[Xeu hng,Xby]
    refine .inr (.inr (.inr (.inl (fun hd=> ?_))))
    have:=hd 0 (by omega)
    rw[V2 (by omega),Nat.add_zero,h45] at this
    cases this
   ·have hng:Wa ((L.drop p).take (z-p))=true:=by
     unfold Wa;rw[hlen,V2 (by omega),Nat.add_zero,h45];simp;omega
    have hdr:((L.drop p).take (z-p)).drop 1=(L.drop q).take (z-q):=by
     rw[List.drop_take,List.drop_drop,hq1,show z-p-1=z-(p+1) by omega]
    rw[Xjr hng,hdr,Xmj hz hql,hnum]
    ·split
     ·rfl
     ·rfl
    ·rintro-⟨h1,h2⟩
     refine h ?_
     have e2:z-p=2:=by omega
     rw[e2]
     have hp0:p<L.length:=by omega
     have hp1:p+1<L.length:=by omega
     rw[List.drop_eq_getElem_cons hp0,List.drop_eq_getElem_cons hp1]
     have b0:L[p]=45:=by
      have:=h45;unfold Xh at this;rw[List.getD_eq_getElem?_getD,List.getElem?_eq_getElem hp0] at this
      exact UInt8.toNat_inj.1 this
     have b1:L[p+1]=48:=by
      have:=h2;rw[hq1] at this;unfold Xh at this;rw[List.getD_eq_getElem?_getD,List.getElem?_eq_getElem hp1] at this
      exact UInt8.toNat_inj.1 this
     rw[b0,b1];rfl
 ·have hq1:q=p:=by rw[←hq];unfold Yc;rw[if_neg hn]
  subst hq1
  have hnd:∀h:0<z-q,Xh ((L.drop q).take (z-q)) 0≠45:=fun h e=>by
   rw[V2 h,Nat.add_zero] at e
   have:=hin 0 h
   rw[Nat.add_zero,e] at this
   cases this
  have hng:Wa ((L.drop q).take (z-q))=false:=by
   unfold Wa
   rw[hlen]
   simp only[decide_eq_false_iff_not]
   rintro ⟨h1,h2⟩
   exact hnd (by omega) h2
  refine ⟨fun h=> ?_,fun h=> ?_⟩
  ·exfalso
   have hl2:z-q=2:=by rw[h] at hlen;simpa using hlen.symm
   refine hnd (by omega) ?_
   rw[h];rfl
  ·rw[Xeu hng,Xmj hz hql (fun h=>by cases h),hnum]
   split
   ·rfl
   ·rfl

def Sit (L:List UInt8) (p:Nat) (B:List UInt8):Prop:=p≤L.length∧∃post,L.drop p=B++post
theorem Sit.left {L:List UInt8} {p:Nat} {A B:List UInt8} (h:Sit L p (A++B)):Sit L p A:=by
 obtain ⟨h0,post,h⟩:=h
 exact ⟨h0,B++post,by rw[h,List.append_assoc]⟩
theorem Sit.len {L:List UInt8} {p:Nat} {B:List UInt8} (h:Sit L p B):p+B.length≤L.length:=by
 obtain ⟨h0,post,h⟩:=h
 have:=congrArg List.length h
 rw[List.length_drop,List.length_append] at this
 omega
theorem Sit.right {L:List UInt8} {p:Nat} {A B:List UInt8} (h:Sit L p (A++B)):Sit L (p+A.length) B:=by
 have hl:=h.left.len
 obtain ⟨h0,post,h⟩:=h
 refine ⟨hl,post, ?_⟩
 rw[←List.drop_drop,h,List.append_assoc,List.drop_left]
theorem Sit.byte {L:List UInt8} {p:Nat} {B:List UInt8} (h:Sit L p B) {j:Nat} {x:UInt8} (hj:B[j]? =some x):Xh L (p+j)=x.toNat:=by
 obtain ⟨h0,post,h⟩:=h
 have hlt:j<B.length:=by
  rcases Nat.lt_or_ge j B.length with h'|h'
  ·exact h'
  ·rw[List.getElem?_eq_none h'] at hj;cases hj
 have:L[p+j]? =some x:=by
  rw[←List.getElem?_drop,h,List.getElem?_append_left hlt,hj]
 unfold Xh
 rw[List.getD_eq_getElem?_getD,this]
 rfl

theorem Xgf {P:Nat→Bool} {L:List UInt8}:∀{m q:Nat},(∀j,j<m→P (Xh L (q+j))=true)→q+m≤L.length→¬(q+m<L.length∧P (Xh L (q+m))=true)→Ky P L q=q+m:=by
 intro m
 induction m with
 |zero=>intro q _ _ h;rw[Nat.add_zero] at *;exact Q1 h
 | succ m ih =>
  intro q h1 h2 h3
  rw[Kb (by omega) (by have:=h1 0 (by omega);rwa [Nat.add_zero] at this),ih (q:=q+1) (fun j hj=>by have:=h1 (j+1) (by omega);rwa [show q+(j+1)=q+1+j by omega] at this) (by omega) (by rwa [show q+1+m=q+(m+1) by omega])]
  omega
theorem Xan {d:Nat} (h:d<10):(UInt8.ofNat (48+d)).toNat=48+d:=by rw[UInt8.toNat_ofNat'];omega
theorem Sit.one {L:List UInt8} {q:Nat} {x:UInt8} {B:List UInt8} (h:Sit L q (x::B)):q<L.length∧Xh L q=x.toNat:=by
 have:=h.len
 rw[List.length_cons] at this
 exact ⟨by omega,h.byte (j:=0) rfl⟩
theorem Sit.next {L:List UInt8} {q:Nat} {x:UInt8} {B:List UInt8} (h:Sit L q (x::B)):Sit L (q+1) B:=Sit.right (A:= [x]) h
theorem Xdv {L:List UInt8}:∀(m u q:Nat),u≤m→Sit L q (Lib.decDigits u)→X3 L q (Lib.decDigits u).length=u∧(∀j,j<(Lib.decDigits u).length→Zn (Xh L (q+j))=true)∧(1≤u→Xh L q≠48)∧1≤(Lib.decDigits u).length∧(1<(Lib.decDigits u).length→1≤u):=by
 intro m
 induction m with
 | zero =>
  intro u q hu hs
  obtain rfl:u=0:=by omega
  rw[Lib.decDigits,dif_pos (by omega)] at hs⊢
  have hb:=hs.one.2
  refine ⟨?_,fun j hj=> ?_,fun h=>by omega,by simp,fun h=>by simp at h⟩
  ·simp only[List.length_cons,List.length_nil,Nat.zero_add,X3];rw[Nat.add_zero,hb];rfl
  ·obtain rfl:j=0:=by simpa using hj
   rw[Nat.add_zero,hb];rfl
 | succ m ih =>
  intro u q hu hs
  by_cases h10:u<10
  ·rw[Lib.decDigits,dif_pos h10] at hs⊢
   have hb:=hs.one.2
   rw[Xan h10] at hb
   refine ⟨?_,fun j hj=> ?_,fun h=>by omega,by simp,fun h=>by simp at h⟩
   ·simp only[List.length_cons,List.length_nil,Nat.zero_add,X3];rw[Nat.add_zero,hb];omega
   ·obtain rfl:j=0:=by simpa using hj
    rw[Nat.add_zero,hb];unfold Zn;simp;omega
  ·rw[Lib.decDigits,dif_neg h10] at hs⊢
   obtain ⟨a1,a2,a3,a4,a5⟩:=ih (u/10) q (by omega) hs.left
   have hb:=hs.right.one.2
   rw[Xan (by omega)] at hb
   refine ⟨?_,fun j hj=> ?_,fun h=>a3 (by omega),by simp,fun h=>by omega⟩
   ·rw[List.length_append,List.length_cons,List.length_nil,Nat.zero_add,X3,a1,hb];omega
   ·rw[List.length_append,List.length_cons,List.length_nil] at hj
    by_cases e:j=(Lib.decDigits (u/10)).length
    ·rw[e,hb];unfold Zn;simp;omega
    ·exact a2 j (by omega)
def X0f (L:List UInt8) (q:Nat):Prop:=¬(q<L.length∧Zn (Xh L q)=true)
theorem Xix {L:List UInt8} {p:Nat} {n:Int} (h1: -1000000000000000≤n) (h2:n≤1000000000000000) (h:Sit L p (Lib.itoa n)) (hs:X0f L (p+(Lib.itoa n).length)):Xbk L p=some (n,p+(Lib.itoa n).length):=by
 unfold Lib.itoa at h hs⊢
 by_cases hn:n<0
 ·rw[if_pos hn] at h hs⊢
  obtain ⟨b0,b1⟩:=h.one
  obtain ⟨a1,a2,a3,a4,a5⟩:=Xdv (L:=L) n.natAbs n.natAbs (p+1) (Nat.le_refl _) h.next
  have hl:=h.next.len
  rw[List.length_cons] at hs⊢
  have hat:Xe L p 45=true:=Xl.2 ⟨b0,b1⟩
  have hna:Yc L p=p+1:=by unfold Yc;rw[if_pos hat]
  have hdg:dgJ L (p+1)=p+1+(Lib.decDigits n.natAbs).length:=Xgf a2 hl (by rw[show p+1+(Lib.decDigits n.natAbs).length=p+((Lib.decDigits n.natAbs).length+1) by omega];exact hs)
  unfold Xbk
  rw[hna,hdg,show p+1+(Lib.decDigits n.natAbs).length-(p+1)=(Lib.decDigits n.natAbs).length by omega,a1,if_neg,if_pos hat]
  ·refine congrArg some (Prod.ext ?_ ?_)
   ·show-((n.natAbs:Nat):Int)=n;omega
   ·show p+1+_=_;omega
  ·rintro (e|⟨e1,e2⟩|e)
   ·omega
   ·exact a3 (by omega) e2
   ·omega
 ·rw[if_neg hn] at h hs⊢
  obtain ⟨a1,a2,a3,a4,a5⟩:=Xdv (L:=L) n.toNat n.toNat p (Nat.le_refl _) h
  have hl:=h.len
  have hat:¬Xe L p 45=true:=fun e=>by
   have e2:=(Xl.1 e).2
   have:=a2 0 (by omega)
   rw[Nat.add_zero,e2] at this
   cases this
  have hna:Yc L p=p:=by unfold Yc;rw[if_neg hat]
  have hdg:dgJ L p=p+(Lib.decDigits n.toNat).length:=Xgf a2 hl hs
  unfold Xbk
  rw[hna,hdg,show p+(Lib.decDigits n.toNat).length-p=(Lib.decDigits n.toNat).length by omega,a1,if_neg,if_neg hat]
  ·refine congrArg some (Prod.ext ?_ rfl)
   show ((n.toNat:Nat):Int)=n;omega
  ·rintro (e|⟨e1,e2⟩|e)
   ·omega
   ·exact a3 (a5 (by omega)) e2
   ·omega
theorem Xb5 {L:List UInt8} {p:Nat} {n:Int} (h:Sit L p (Lib.itoa n)):p<L.length∧(Xh L p=45∨Zn (Xh L p)=true):=by
 unfold Lib.itoa at h
 by_cases hn:n<0
 ·rw[if_pos hn] at h
  exact ⟨h.one.1, .inl h.one.2⟩
 ·rw[if_neg hn] at h
  obtain ⟨a1,a2,a3,a4,a5⟩:=Xdv (L:=L) n.toNat n.toNat p (Nat.le_refl _) h
  have hl:=h.len
  exact ⟨by omega, .inr (by have:=a2 0 (by omega);rwa [Nat.add_zero] at this)⟩
theorem Xm5:∀d:Fin 16,Kp (Vh d.val).toNat=some d.val:=by decide+kernel
theorem Xg0 {d:Nat} (h:d<16):Kp (Vh d).toNat=some d:=Xm5 ⟨d,h⟩
theorem Xp2 (c:UInt8) (hc:c.toNat≤127):(∃x:UInt8,Ks c= [92,x]∧Uq x.toNat=some c.toNat)∨(∃a b:UInt8,Ks c= [92,117,48,48,a,b]∧∃u v,Kp a.toNat=some u∧Kp b.toNat=some v∧16 *u+v=c.toNat)∨(Ks c= [c]∧c≠34∧c≠92∧32≤c.toNat):=by
 unfold Ks
 split
 ·rename_i e;subst e;exact .inl ⟨34,rfl,rfl⟩
 split
 ·rename_i e;subst e;exact .inl ⟨92,rfl,rfl⟩
 split
 ·rename_i e;subst e;exact .inl ⟨98,rfl,rfl⟩
 split
 ·rename_i e;subst e;exact .inl ⟨116,rfl,rfl⟩
 split
 ·rename_i e;subst e;exact .inl ⟨110,rfl,rfl⟩
 split
 ·rename_i e;subst e;exact .inl ⟨102,rfl,rfl⟩
 split
 ·rename_i e;subst e;exact .inl ⟨114,rfl,rfl⟩
 split
 ·exact .inr (.inl ⟨_,_,rfl,c.toNat/16,c.toNat%16,Xg0 (by omega),Xg0 (by omega),by omega⟩)
 ·rename_i h34 h92 _ _ _ _ _ h
  refine .inr (.inr ⟨rfl,h34,h92, ?_⟩)
  have:¬c<32:=fun e=>h (.inl e)
  rw[UInt8.lt_iff_toNat_lt] at this
  have e32:(32:UInt8).toNat=32:=rfl
  omega
theorem Xyl {L:List UInt8} {p:Nat} {x:UInt8} {b:Nat} (h:p<L.length) (hx:Xh L p=x.toNat) (hb:Uq x.toNat=some b):Z1 L p=some (b,p+1):=by
 unfold Z1;rw[if_neg (by omega),hx];simp only[hb]
theorem Xwn {L:List UInt8} {p:Nat} {a b:UInt8} {u v:Nat} (h:Sit L p [117,48,48,a,b]) (ha:Kp a.toNat=some u) (hb:Kp b.toNat=some v) (hv:16 *u+v≤127):Z1 L p=some (16 *u+v,p+5):=by
 have hl:=h.len
 simp only[List.length_cons,List.length_nil] at hl
 have b0:=h.byte (j:=0) rfl
 have b1:=h.byte (j:=1) rfl
 have b2:=h.byte (j:=2) rfl
 have b3:=h.byte (j:=3) rfl
 have b4:=h.byte (j:=4) rfl
 rw[Nat.add_zero] at b0
 have e0:Uq (Xh L p)=none:=by rw[b0];rfl
 unfold Z1
 rw[if_neg (by omega)]
 simp only[e0]
 rw[if_pos (show Xh L p=117 from b0)]
 have h1:Qk L (p+1) 1=some 0:=by rw[Qk,Qk];simp only[Nat.add_zero,b1];rfl
 have h2:Qk L (p+1) 2=some 0:=by rw[Qk,h1,show p+1+1=p+2 by omega,b2];rfl
 have h3:Qk L (p+1) 3=some u:=by rw[Qk,h2,show p+1+2=p+3 by omega,b3];simp only[ha];simp
 have h4:Qk L (p+1) 4=some (16 *u+v):=by rw[Qk,h3,show p+1+3=p+4 by omega,b4];simp only[hb]
 rw[Xdc (by omega) h4 hv]
theorem Xym {L:List UInt8}:∀(l:List UInt8) (q:Nat),(∀c∈l,c.toNat≤127)→Sit L q (quo l++ [34])→txJ L q=some (l,q+(quo l).length+1):=by
 intro l
 induction l with
 | nil =>
  intro q _ h
  obtain ⟨h1,h2⟩:=Sit.one (B:= []) h
  rw[Gs h1,if_pos (by rw[h2];rfl)]
  rfl
 | cons c l ih =>
  intro q hc h
  have hc0:=hc c (by simp)
  have hcl:∀d∈l,d.toNat≤127:=fun d hd=>hc d (by simp[hd])
  have hof:UInt8.ofNat c.toNat=c:=by simp
  rw[quo,List.append_assoc] at h
  have hr:=ih _ hcl h.right
  rw[quo,List.length_append]
  rcases Xp2 c hc0 with ⟨x,e,ex⟩|⟨a,b,e,u,v,eu,ev,euv⟩|⟨e,n34,n92,n32⟩
  ·rw[e] at h hr⊢
   have hl:=h.left
   obtain ⟨h1,h2⟩:=hl.one
   obtain ⟨h3,h4⟩:=hl.next.one
   have hesc:=Xyl h3 h4 ex
   rw[Gs h1,if_neg (by rw[h2];decide),if_pos (by rw[h2];rfl),hesc]
   simp only[List.length_cons,List.length_nil] at hr⊢
   rw[show q+1+1=q+(0+1+1) by omega,hr,hof]
   refine congrArg some (Prod.ext rfl ?_)
   show q+(0+1+1)+(quo l).length+1=q+(0+1+1+(quo l).length)+1;omega
  ·rw[e] at h hr⊢
   have hl:=h.left
   obtain ⟨h1,h2⟩:=hl.one
   have hesc:=Xwn hl.next eu ev (by omega)
   rw[Gs h1,if_neg (by rw[h2];decide),if_pos (by rw[h2];rfl),hesc]
   simp only[List.length_cons,List.length_nil] at hr⊢
   rw[show q+1+5=q+(0+1+1+1+1+1+1) by omega,hr,euv,hof]
   refine congrArg some (Prod.ext rfl ?_)
   show q+(0+1+1+1+1+1+1)+(quo l).length+1=q+(0+1+1+1+1+1+1+(quo l).length)+1;omega
  ·rw[e] at h hr⊢
   obtain ⟨h1,h2⟩:=h.left.one
   have m34:¬Xh L q=34:=fun e2=>n34 (UInt8.toNat_inj.1 (by rw[←h2,e2];rfl))
   have m92:¬Xh L q=92:=fun e2=>n92 (UInt8.toNat_inj.1 (by rw[←h2,e2];rfl))
   rw[Gs h1,if_neg m34,if_neg m92,if_neg (by omega)]
   simp only[List.length_cons,List.length_nil] at hr⊢
   rw[show q+1=q+(0+1) by omega,hr,h2,hof]
   refine congrArg some (Prod.ext rfl ?_)
   show q+(0+1)+(quo l).length+1=q+(0+1+(quo l).length)+1;omega
theorem Xp3 {s:ByteArray} (h:Qi s=true):∀c∈s.data.toList,c.toNat≤127:=by
 unfold Qi at h
 simp only[Bool.and_eq_true,List.all_eq_true,decide_eq_true_eq] at h
 exact h.2
theorem Xs9 {L:List UInt8} {p:Nat} {s:ByteArray} (hs:Qi s=true) (h:Sit L p (Gp s)):Xe L p 34=true∧txJ L (p+1)=some (s.data.toList,p+(Gp s).length):=by
 unfold Gp at h⊢
 obtain ⟨h1,h2⟩:=h.one
 refine ⟨Xl.2 ⟨h1,h2⟩, ?_⟩
 rw[Xym _ _ (Xp3 hs) h.next]
 refine congrArg some (Prod.ext rfl ?_)
 simp only[List.length_cons,List.length_append,List.length_nil]
 omega

theorem Xlw:∀(l:List UInt8) (acc a:Nat) (d:UInt8),Lib.parseUint10 acc l= .ok a→48≤d.toNat→d.toNat≤57→a<1000000000000000→Lib.parseUint10 acc (l++ [d])= .ok (a *10+(d.toNat-48)):=by
 intro l
 induction l with
 | nil =>
  intro acc a d h h1 h2 h3
  simp only[Lib.parseUint10,Lib.NumEnd.ok.injEq] at h
  subst h
  rw[List.nil_append,Lib.parseUint10,if_pos ⟨h1,h2⟩,if_neg (by omega),if_neg (by omega),Lib.parseUint10]
 | cons c l ih =>
  intro acc a d h h1 h2 h3
  rw[List.cons_append,Lib.parseUint10]
  rw[Lib.parseUint10] at h
  split at h
  ·rename_i hc
   rw[if_pos hc]
   split at h
   ·cases h
   ·rename_i h4
    rw[if_neg h4]
    split at h
    ·cases h
    ·rename_i h5
     rw[if_neg h5]
     exact ih _ _ _ h h1 h2 h3
  ·cases h
theorem Xph:∀m u,u≤m→u≤1000000000000000→Lib.parseUint10 0 (Lib.decDigits u)= .ok u:=by
 intro m
 induction m with
 | zero =>
  intro u h _
  obtain rfl:u=0:=by omega
  rw[Lib.decDigits,dif_pos (by omega)];rfl
 | succ m ih =>
  intro u h h15
  by_cases h10:u<10
  ·rw[Lib.decDigits,dif_pos h10]
   have:=Xan h10
   have h2:=Xlw [] 0 0 (UInt8.ofNat (48+u)) rfl (by omega) (by omega) (by omega)
   rw[List.nil_append,this] at h2
   rw[h2]
   congr 1
   omega
  ·rw[Lib.decDigits,dif_neg h10]
   have h1:=ih (u/10) (by omega) (by omega)
   have:=Xan (show u%10<10 by omega)
   rw[Xlw _ _ _ _ h1 (by omega) (by omega) (by omega),this]
   congr 1
   omega
theorem Xlx:∀m u,u≤m→∀c∈Lib.decDigits u,48≤c.toNat∧c.toNat≤57:=by
 intro m
 induction m with
 | zero =>
  intro u h c hc
  obtain rfl:u=0:=by omega
  rw[Lib.decDigits,dif_pos (by omega)] at hc
  have:c=UInt8.ofNat (48+0):=by simpa using hc
  subst this;decide
 | succ m ih =>
  intro u h c hc
  by_cases h10:u<10
  ·rw[Lib.decDigits,dif_pos h10,List.mem_singleton] at hc
   have:=Xan h10
   rw[hc,this];omega
  ·rw[Lib.decDigits,dif_neg h10,List.mem_append,List.mem_singleton] at hc
   rcases hc with hc|hc
   ·exact ih _ (by omega) c hc
   ·have:=Xan (show u%10<10 by omega)
    rw[hc,this];omega
theorem Xpi (u:Nat):Lib.decDigits u≠ []:=by
 rw[Lib.decDigits];split<;>simp
theorem Xgs {n:Int} (h1: -1000000000000000≤n) (h2:n≤1000000000000000):Lib.parseIntB 64 (Lib.itoa n)= .ok n:=by
 rw[Lib.parseIntB_64]
 unfold Lib.itoa
 have hm:∀u:Nat,u≤1000000000000000→Lib.parseMag (Lib.decDigits u)= .ok u:=fun u hu=>by
  unfold Lib.parseMag
  rw[if_neg (Xpi u),Xph u u (Nat.le_refl _) hu]
 split
 ·rw[Lib.atoiAll_minus,hm _ (by omega)]
  simp only[Lib.signed]
  rw[if_neg (by omega)]
  congr 1;omega
 ·have hm2:=hm n.toNat (by omega)
  have hall:=Xlx _ n.toNat (Nat.le_refl _)
  cases e:Lib.decDigits n.toNat with
  |nil=>exact absurd e (Xpi _)
  | cons c r =>
   rw[e] at hm2 hall
   have:=hall c (by simp)
   rw[Lib.atoiAll_plain c r (by omega) (by omega),hm2]
   simp only[Lib.signless]
   rw[if_neg (by omega)]
   congr 1;omega

theorem Xnx (w:World):w=w.drewN 0:=by cases w;rfl
theorem G9 {P:Program} {l:List Oper} {md:Region.Mode} {w:World} {Q:Exit→Act→World→Prop} {listed:Array Bool} {a:Act} (k:Nat) {fuel:Nat} (hk:l.length=k+fuel) (hs:Region.noSelect l.toArray=true) (hB:Region.lexFrom md l.toArray fuel k listed=true)
  (h:wpQuiet P l.toArray (fun w'=>∃n,w'=w.drewN n) (fun a'=>∀w',(∃n,w'=w.drewN n)→Q .normal a' w') (l.drop k) a):wpAny P md l.toArray Q fuel listed a w:=by
 have hl:(l.drop k).length=fuel:=by rw[List.length_drop];omega
 refine wpAny_of_quiet (C:=fun w'=>∃n,w'=w.drewN n) (Q:=fun a'=>∀w',(∃n,w'=w.drewN n)→Q .normal a' w') (fun _ w' hw' h=>h w' hw') _ _ _ _ ⟨0,Xnx w⟩ ?_
 have:=wpAnyQ_lex (C:=fun w'=>∃n,w'=w.drewN n) (md:=md) hs (l.drop k) k listed a (fun j=>by rw[List.getElem?_drop];simp) (by rw[hl];exact hB) h
 rw[hl] at this
 exact this

def Gn (c:UInt8):Int:=
 if 48≤c∧c≤57 then (c.toNat:Int)-48 else if 97≤c∧c≤102 then (c.toNat:Int)-87 else if 65≤c∧c≤70 then (c.toNat:Int)-55 else-1
theorem u8n {c d:UInt8}:c≤d↔c.toNat≤d.toNat:=UInt8.le_iff_toNat_le
theorem Xwl (c:UInt8):Gn c<16:=by
 unfold Gn
 simp only[u8n]
 split
 ·rename_i h;have:c.toNat≤57:=h.2;omega
 ·split
  ·rename_i h;have:c.toNat≤102:=h.2;omega
  ·split
   ·rename_i h;have:c.toNat≤70:=h.2;omega
   ·omega
theorem Xwm (c:UInt8): -1≤Gn c:=by
 unfold Gn
 simp only[u8n]
 split
 ·rename_i h;have:48≤c.toNat:=h.1;omega
 ·split
  ·rename_i h;have:97≤c.toNat:=h.1;omega
  ·split
   ·rename_i h;have:65≤c.toNat:=h.1;omega
   ·omega
end Go.Proofs.YtehihemfepbmfaaGreatDoor
