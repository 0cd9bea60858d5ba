import Derived.Test.YtehihemfepbmfaaGreatDoorFtA
import Derived.Test.YtehihemfepbmfaaGreatDoorLeaf
namespace Go.Proofs.YtehihemfepbmfaaGreatDoor
set_option maxHeartbeats 6400000
open Go.RowKit
set_option linter.unusedSimpArgs false
set_option linter.unusedVariables false
set_option linter.unusedSectionVars false
structure FitF (x:FN):Prop where
 kind:0≤x.kind∧x.kind≤100
 name:x.name.size≤100000
 place: -9223372036854775808≤x.place∧x.place≤9223372036854775807
 cst:x.cst.length≤1∧∀v∈x.cst,v.keys= []∧v.kids= []∧v.s.size≤100000∧0≤v.kind∧v.kind≤100∧-9223372036854775808≤v.n∧v.n≤9223372036854775807
 names:x.names.length≤100000∧∀z∈x.names,z.size≤100000
 kids:x.kids.length≤100000∧∀k∈x.kids,0≤k∧k≤100000
def Y0 (fs:List FN):Prop:=∀x∈fs,FitF x
theorem Xet:Y0 []:=fun x hx=>absurd hx (by simp)
theorem Xq8 {fs:List FN} {x:FN} (h:Y0 fs) (hx:FitF x):Y0 (fs++ [x]):=fun y hy=>by
 rcases List.mem_append.1 hy with h'|h'
 ·exact h y h'
 ·rw[List.mem_singleton] at h';subst h';exact hx
structure WFit (W:WP) (L:List UInt8):Prop where
 dec:∀l v,W.dec l=some v→-9223372036854775808≤v∧v≤9223372036854775807
 tex:∀p t q,p≤L.length→W.tex L p=some (t,q)→t.length≤L.length
def X1i (L:List UInt8) (fs:List FN) (p:Nat) (r:RF):Prop:=Y0 fs→fs.length≤p→p≤L.length→∀n fs' q,r=some (n,fs',q)→Y0 fs'
def Xuc (L:List UInt8) (R:RD):Prop:=∀least fs p,X1i L fs p (R least fs p)
theorem e0F:ByteArray.empty.size≤100000:=by decide
theorem p0F:(-9223372036854775808:Int)≤0∧(0:Int)≤9223372036854775807:=by decide
theorem c0F:([]:List VN).length≤1∧∀v∈([]:List VN),v.keys= []∧v.kids= []∧v.s.size≤100000∧0≤v.kind∧v.kind≤100∧-9223372036854775808≤v.n∧v.n≤9223372036854775807:=⟨by decide,fun v hv=>absurd hv (by simp)⟩
theorem n0F:([]:List ByteArray).length≤100000∧∀z∈([]:List ByteArray),z.size≤100000:=⟨by decide,fun v hv=>absurd hv (by simp)⟩
theorem k0F:([]:List Int).length≤100000∧∀k∈([]:List Int),0≤k∧k≤100000:=⟨by decide,fun v hv=>absurd hv (by simp)⟩
theorem Xbe (k:Int) (h:0≤k∧k≤100):FitF (Qw k):=⟨h,e0F,p0F,c0F,n0F,k0F⟩
theorem Xfr (k:Int) (ks:List Int) (h:0≤k∧k≤100) (hn:ks.length≤100000) (hk:∀x∈ks,0≤x∧x≤100000):FitF (Yw k ks):=⟨h,e0F,p0F,c0F,n0F,⟨hn,hk⟩⟩
theorem X0w (names:List ByteArray) (kids:List Int) (hn:names.length≤100000∧∀z∈names,z.size≤100000) (hk:kids.length≤100000∧∀x∈kids,0≤x∧x≤100000):FitF (Vv names kids):=⟨⟨show (0:Int)≤9 by decide,show (9:Int)≤100 by decide⟩,e0F,p0F,c0F,hn,hk⟩
theorem Xfs (k n:Int) (s:ByteArray) (h:0≤k∧k≤100) (hn: -9223372036854775808≤n∧n≤9223372036854775807) (hs:s.size≤100000):FitF (Zt ⟨k,n,s,[],[]⟩):=⟨⟨show (0:Int)≤5 by decide,show (5:Int)≤100 by decide⟩,e0F,p0F,⟨Nat.le_refl 1,fun v hv=>by simp[Zt] at hv;subst hv;exact ⟨rfl,rfl,hs,h.1,h.2,hn.1,hn.2⟩⟩,n0F,k0F⟩
theorem X0x (n:Int) (h: -9223372036854775808≤n∧n≤9223372036854775807):FitF ⟨3,ByteArray.empty,n,[],[],[]⟩:=⟨⟨show (0:Int)≤3 by decide,show (3:Int)≤100 by decide⟩,e0F,h,c0F,n0F,k0F⟩
theorem X0y (s:ByteArray) (h:s.size≤100000):FitF ⟨2,s,0,[],[],[]⟩:=⟨⟨show (0:Int)≤2 by decide,show (2:Int)≤100 by decide⟩,h,p0F,c0F,n0F,k0F⟩
theorem Z3 {W:WP} {x:FN} {fs:List FN} {q:Nat} {n:Int} {fs':List FN} {q':Nat} (hx:FitF x) (h:Y0 fs) (e:Xu W x fs q=some (n,fs',q')):Y0 fs':=by
 obtain ⟨-,rfl,-⟩:=V5 e;exact Xq8 h hx
theorem Xjp {L:List UInt8} {p m:Nat}:(txt ((L.drop p).take m)).size≤L.length:=by rw[Xo,List.length_take,List.length_drop];omega
section
variable {W:WP} {L:List UInt8} {R:RD} (HG:Jw L R) (HW:WGood W L) (HT:WFit W L) (HF:Xuc L R) (hL:L.length≤5000)
include HG HW HT HF hL
theorem Xq9 {fs:List FN} {p:Nat} (ha:Y0 fs) {n:Int} {fs':List FN} {q:Nat} (h:Qo W L fs p=some (n,fs',q)):Y0 fs':=by
 have _:=HG;have _:=HW;have _:=HF;have _:=hL
 unfold Qo at h
 split at h
 ·exact Z3 (Xbe 4 (by decide)) ha h
 ·obtain ⟨v,hd,h⟩:=Xay h
  obtain ⟨-,h⟩:=Zi h
  exact Z3 (X0x v (HT.dec _ _ hd)) ha h
theorem Xra {fs:List FN} {p:Nat} (ha:Y0 fs) {n:Int} {fs':List FN} {q:Nat} (h:Ym W L fs p=some (n,fs',q)):Y0 fs':=by
 unfold Ym at h
 split at h
 ·exact Z3 (X0y _ (by have:=Xjp (L:=L) (p:=p) (m:=nmJ L p-p);unfold X9;omega)) ha h
 ·split at h
  ·exact Xq9 HG HW HT HF hL ha h
  ·exact Z3 (Xbe 1 (by decide)) ha h
theorem Xaw {least:Int} {fs:List FN} {p:Nat} (hl:fs.length≤p) (hp:p≤L.length) {n:Int} {fs':List FN} {q:Nat} (h:R least fs p=some (n,fs',q)):(0≤n∧n≤100000)∧fs'.length≤q∧q≤L.length∧p<q:=by
 have _:=HW;have _:=HT;have _:=HF
 have wt:=HG _ _ _ _ _ _ hp h
 have:=wt.cnt;have:=wt.n0;have:=wt.n1;have:=wt.le
 exact ⟨⟨by omega,by omega⟩,by omega,by omega,wt.lt⟩
theorem Xft {c:Nat} {fs:List FN} {p:Nat} (ha:Y0 fs) (hl:fs.length≤p) (hp:p≤L.length) {n:Int} {fs':List FN} {q:Nat} (h:Zl R L c fs p=some (n,fs',q)):Y0 fs'∧(0≤n∧n≤100000):=by
 unfold Zl at h
 obtain ⟨n1,fs1,q1,h1,h2⟩:=X5 h
 obtain ⟨-,h3⟩:=Zi h2
 simp only[Option.some.injEq,Prod.mk.injEq] at h3
 obtain ⟨rfl,rfl,rfl⟩:=h3
 exact ⟨HF _ _ _ ha hl hp _ _ _ h1,(Xaw HG HW HT HF hL hl hp h1).1⟩
theorem Xud {fs:List FN} {p:Nat} (ha:Y0 fs) (hl:fs.length≤p) (hp:p≤L.length) {n:Int} {fs':List FN} {q:Nat} (h:Jo W R L fs p=some (n,fs',q)):Y0 fs':=by
 unfold Jo at h
 split at h
 ·exact Z3 (Xbe 8 (by decide)) ha h
 ·obtain ⟨n1,fs1,q1,h1,h2⟩:=X5 h
  obtain ⟨-,h3⟩:=Zi h2
  have k:=(Xaw HG HW HT HF hL hl hp h1).1
  exact Z3 (Xfr 8 [n1] (by decide) (by simp) (fun x hx=>by simp at hx;subst hx;exact k)) (HF _ _ _ ha hl hp _ _ _ h1) h3
theorem Xue:∀g names kids fs p,Y0 fs→fs.length≤p→p≤L.length→names.length≤p→(∀z∈names,z.size≤100000)→kids.length≤p→(∀k∈kids,(0:Int)≤k∧k≤100000)→∀n fs' q,Zm W R L g names kids fs p=some (n,fs',q)→Y0 fs':=by
 intro g
 induction g with
 |zero=>intro names kids fs p _ _ _ _ _ _ _ n fs' q h;cases h
 | succ g ih =>
  intro names kids fs p ha hl hp hn1 hn2 hk1 hk2 n fs' q h
  rw[Zm] at h
  obtain ⟨e,h⟩:=Zi h
  obtain ⟨n1,fs1,q1,h1,h2⟩:=X5 h
  have e1:=(Xl.1 e).1
  have e2:=Xw L (W.nam L p)
  have e3:=(HW.nam p hp).1
  have e4:=Xw L (skF L (W.nam L p)+1)
  have hq:skF L (skF L (W.nam L p)+1)≤L.length:=X1 (by omega)
  have k:=Xaw HG HW HT HF hL (by omega) hq h1
  have ha1:=HF _ _ _ ha (by omega) hq _ _ _ h1
  have hz:∀z∈names++ [txt ((L.drop p).take (W.nam L p-p))],z.size≤100000:=fun z hz=>by
   rcases List.mem_append.1 hz with h'|h'
   ·exact hn2 z h'
   ·rw[List.mem_singleton] at h';subst h';have:=Xjp (L:=L) (p:=p) (m:=W.nam L p-p);omega
  have hk:∀x∈kids++ [n1],(0:Int)≤x∧x≤100000:=fun x hx=>by
   rcases List.mem_append.1 hx with h'|h'
   ·exact hk2 x h'
   ·rw[List.mem_singleton] at h';subst h';exact k.1
  split at h2
  ·exact Z3 (X0w _ _ ⟨by simp;omega,hz⟩ ⟨by simp;omega,hk⟩) ha1 h2
  ·obtain ⟨e5,h3⟩:=Zi h2
   have e6:=(Xl.1 e5).1
   have e7:=Xw L (q1+1)
   exact ih _ _ _ _ ha1 (by omega) (X1 (by omega)) (by simp;omega) hz (by simp;omega) hk _ _ _ h3
theorem Xxi {fs:List FN} {p:Nat} (ha:Y0 fs) (hl:fs.length≤p) (hp:p≤L.length) {n:Int} {fs':List FN} {q:Nat} (h:Jf W R L fs p=some (n,fs',q)):Y0 fs':=by
 unfold Jf at h
 split at h
 ·exact Z3 (Xbe 9 (by decide)) ha h
 ·exact Xue HG HW HT HF hL _ _ _ _ _ ha hl hp (by simp) (fun z hz=>absurd hz (by simp)) (by simp) (fun z hz=>absurd hz (by simp)) _ _ _ h
theorem Xxj {fs:List FN} {p:Nat} (ha:Y0 fs) (hl:fs.length≤p) {n:Int} {fs':List FN} {q:Nat} (h:Vy W R L fs p=some (n,fs',q)):Y0 fs':=by
 unfold Vy at h
 obtain ⟨e,h⟩:=Zi h
 have e1:=(Xl.1 e).1
 have e2:=Xw L (p+1)
 obtain ⟨n1,fs1,q1,h1,h2⟩:=X5 h
 obtain ⟨a1,k⟩:=Xft HG HW HT HF hL ha (by omega) (X1 (by omega)) h1
 exact Z3 (Xfr 10 [n1] (by decide) (by simp) (fun x hx=>by simp at hx;subst hx;exact k)) a1 h2
theorem Xzx {fs:List FN} {p:Nat} (ha:Y0 fs) (hl:fs.length≤p) (hp:p≤L.length) {n:Int} {fs':List FN} {q:Nat} (h:ifF W R L fs p=some (n,fs',q)):Y0 fs':=by
 unfold ifF at h
 obtain ⟨n1,fs1,q1,h1,h⟩:=X5 h
 have k1:=Xaw HG HW HT HF hL hl hp h1
 have a1:=HF _ _ _ ha hl hp _ _ _ h1
 obtain ⟨-,h⟩:=V4 h
 have x1:q1≤nmJ L q1:=Zh _ _ _
 have x2:=Xw L (nmJ L q1)
 have l2:skF L (nmJ L q1)≤L.length:=X1 (Gz k1.2.2.1)
 obtain ⟨n2,fs2,q2,h2,h⟩:=X5 h
 have k2:=Xaw HG HW HT HF hL (by omega) l2 h2
 have a2:=HF _ _ _ a1 (by omega) l2 _ _ _ h2
 obtain ⟨-,h⟩:=V4 h
 have y1:q2≤nmJ L q2:=Zh _ _ _
 have y2:=Xw L (nmJ L q2)
 have l3:skF L (nmJ L q2)≤L.length:=X1 (Gz k2.2.2.1)
 obtain ⟨n3,fs3,q3,h3,h⟩:=X5 h
 have k3:=Xaw HG HW HT HF hL (by omega) l3 h3
 have a3:=HF _ _ _ a2 (by omega) l3 _ _ _ h3
 obtain ⟨-,h⟩:=V4 h
 exact Z3 (Xfr 22 [n1,n2,n3] (by decide) (by simp) (fun x hx=>by simp at hx;rcases hx with rfl|rfl|rfl;exact k1.1;exact k2.1;exact k3.1)) a3 h
theorem Xrb {w:List UInt8} {fs:List FN} {p:Nat} (ha:Y0 fs) (hl:fs.length≤p) (hp:p≤L.length) {n:Int} {fs':List FN} {q:Nat} (h:X4 W R L w fs p=some (n,fs',q)):Y0 fs':=by
 unfold X4 at h
 split at h
 ·exact Z3 (Xfs 1 0 _ (by decide) (by decide) (by decide)) ha h
 split at h
 ·exact Z3 (Xfs 2 1 _ (by decide) (by decide) (by decide)) ha h
 split at h
 ·exact Z3 (Xfs 2 0 _ (by decide) (by decide) (by decide)) ha h
 split at h
 ·exact Xxj HG HW HT HF hL ha hl h
 split at h
 ·exact Xzx HG HW HT HF hL ha hl hp h
 split at h
 ·exact Z3 (Xbe 11 (by decide)) ha h
 split at h
 ·exact Z3 (Xbe 12 (by decide)) ha h
 split at h
 ·exact Z3 (Xbe 13 (by decide)) ha h
 split at h
 ·exact Z3 (Xbe 14 (by decide)) ha h
 ·cases h
theorem Xhn {fs:List FN} {p:Nat} (ha:Y0 fs) (hl:fs.length≤p) (hp:p≤L.length) {n:Int} {fs':List FN} {q:Nat} (h:Xs W R L fs p=some (n,fs',q)):Y0 fs':=by
 have hs:=Xw L (p+1)
 unfold Xs at h
 split at h
 ·exact Xra HG HW HT HF hL ha h
 split at h
 ·rename_i e;have:=(Xl.1 e).1;exact (Xft HG HW HT HF hL ha (by omega) (X1 (by omega)) h).1
 split at h
 ·rename_i e;have:=(Xl.1 e).1;exact Xud HG HW HT HF hL ha (by omega) (X1 (by omega)) h
 split at h
 ·rename_i e;have:=(Xl.1 e).1;exact Xxi HG HW HT HF hL ha (by omega) (X1 (by omega)) h
 split at h
 ·rename_i e
  have h1:=(Xl.1 e).1
  split at h
  ·cases h
  ·rename_i t q1 et
   have h2:=HT.tex _ _ _ (by omega) et
   exact Z3 (Xfs 4 0 _ (by decide) (by decide) (by rw[Xo];omega)) ha h
 split at h
 ·have x1:p≤nmJ L p:=Zh _ _ _
  have x2:=Xw L (nmJ L p)
  exact Xrb HG HW HT HF hL ha (by omega) (X1 (Gz hp)) h
 split at h
 ·obtain ⟨v,hd,h⟩:=Xay h
  exact Z3 (Xfs 3 v _ (by decide) (HT.dec _ _ hd) (by decide)) ha h
 ·cases h
theorem Xme {k:Int} {len:Nat} {n0:Int} {fs:List FN} {p:Nat} (hk:0≤k∧k≤100) (hn0:0≤n0∧n0<(fs.length:Int)) (ha:Y0 fs) (hl:fs.length≤p) (hp:p+len≤L.length) {n:Int} {fs':List FN} {q:Nat} (h:Jr R L W k len n0 fs p=some (n,fs',q)):Y0 fs':=by
 have hs:=Xw L (p+len)
 unfold Jr at h
 split at h
 ·exact Z3 (Xfr 23 [n0] (by decide) (by simp) (fun x hx=>by simp at hx;subst hx;omega)) ha h
 ·obtain ⟨n1,fs1,q1,h1,h2⟩:=X5 h
  have k1:=Xaw HG HW HT HF hL (by omega) (X1 hp) h1
  exact Z3 (Xfr k [n0,n1] hk (by simp) (fun x hx=>by simp at hx;rcases hx with rfl|rfl;omega;exact k1.1)) (HF _ _ _ ha (by omega) (X1 hp) _ _ _ h1) h2
theorem Xjq {p:Nat} {k:Int} {len:Nat} (h:X0 L p=some (k,len)):0≤k∧k≤100:=by
 have _:=HG;have _:=HW;have _:=HT;have _:=HF;have _:=hL
 rcases Kk h with rfl|rfl|rfl|rfl|rfl|rfl|rfl|rfl|rfl|rfl<;>decide
theorem Xuf (least:Int):∀g bind n0 fs p,Y0 fs→fs.length≤p→p≤L.length→0≤n0→n0<(fs.length:Int)→∀n fs' q,Zx R L W g least bind n0 fs p=some (n,fs',q)→Y0 fs':=by
 intro g
 induction g with
 |zero=>intro bind n0 fs p _ _ _ _ _ n fs' q h;cases h
 | succ g ih =>
  intro bind n0 fs p ha hl hp h0 h1 n fs' q h
  rw[Zx] at h
  cases hj:X0 L p with
  |none=>simp only[hj,Option.some.injEq,Prod.mk.injEq] at h;obtain ⟨rfl,rfl,rfl⟩:=h;exact ha
  | some kl =>
   obtain ⟨k,len⟩:=kl
   obtain ⟨j1,j2,-,-⟩:=Kr hj
   simp only[hj] at h
   split at h
   ·simp only[Option.some.injEq,Prod.mk.injEq] at h;obtain ⟨rfl,rfl,rfl⟩:=h;exact ha
   split at h
   ·cases h
   ·obtain ⟨n1,fs1,q1,e1,e2⟩:=X5 h
    have wt:=V7 HG j1 j2 e1
    have:=wt.cnt;have:=wt.le
    exact ih _ _ _ _ (Xme HG HW HT HF hL (Xjq HG HW HT HF hL hj) ⟨h0,h1⟩ ha hl j2 e1) (by omega) wt.le wt.n0 wt.n1 _ _ _ e2
theorem Xmf (l:Nat):∀g n0 fs p,Y0 fs→fs.length≤p→p≤L.length→0≤n0→n0<(fs.length:Int)→∀n fs' q,J2 R L W l g n0 fs p=some (n,fs',q)→Y0 fs':=by
 intro g
 induction g with
 |zero=>intro n0 fs p _ _ _ _ _ n fs' q h;cases h
 | succ g ih =>
  intro n0 fs p ha hl hp h0 h1 n fs' q h
  rw[J2] at h
  cases hj:X0 L p with
  |none=>simp only[hj,Option.some.injEq,Prod.mk.injEq] at h;obtain ⟨rfl,rfl,rfl⟩:=h;exact ha
  | some kl =>
   obtain ⟨k,len⟩:=kl
   obtain ⟨j1,j2,-,-⟩:=Kr hj
   simp only[hj] at h
   split at h
   ·obtain ⟨n1,fs1,q1,e1,e2⟩:=X5 h
    have wt:=V7 HG j1 j2 e1
    have:=wt.cnt;have:=wt.le
    have a1:=Xme HG HW HT HF hL (Xjq HG HW HT HF hL hj) ⟨h0,h1⟩ ha hl j2 e1
    split at e2
    ·exact ih _ _ _ a1 (by omega) wt.le wt.n0 wt.n1 _ _ _ e2
    ·simp only[Option.some.injEq,Prod.mk.injEq] at e2;obtain ⟨rfl,rfl,rfl⟩:=e2;exact a1
   ·simp only[Option.some.injEq,Prod.mk.injEq] at h;obtain ⟨rfl,rfl,rfl⟩:=h;exact ha
theorem Xzy:∀d fs p,Y0 fs→fs.length≤p→p≤L.length→∀n fs' q,lvS R L W d fs p=some (n,fs',q)→Y0 fs':=by
 intro d
 induction d with
 | zero =>
  intro fs p ha hl hp n fs' q h
  rw[lvS] at h
  obtain ⟨n1,fs1,q1,h1,h2⟩:=X5 h
  have wt:=Kl HG HW hp h1
  have:=wt.cnt
  exact Xmf HG HW HT HF hL 6 _ _ _ _ (Xhn HG HW HT HF hL ha hl hp h1) (by omega) wt.le wt.n0 wt.n1 _ _ _ h2
 | succ d ih =>
  intro fs p ha hl hp n fs' q h
  rw[lvS] at h
  obtain ⟨n1,fs1,q1,h1,h2⟩:=X5 h
  have wt:=Xjv HG HW _ _ _ _ _ _ hp h1
  have:=wt.cnt
  exact Xmf HG HW HT HF hL _ _ _ _ _ (ih _ _ ha hl hp _ _ _ h1) (by omega) wt.le wt.n0 wt.n1 _ _ _ h2
end
theorem Xrc {W:WP} {L:List UInt8} (HW:WGood W L) (HT:WFit W L) (hL:L.length≤5000):∀f,Xuc L (Ys W L f):=by
 intro f
 induction f with
 |zero=>intro least fs p _ _ _ n fs' q h;cases h
 | succ f ih =>
  intro least fs p ha hl hp n fs' q h
  rw[Ys] at h
  obtain ⟨n1,fs1,q1,h1,h2⟩:=X5 h
  have HG:=Xci HW f
  have wt:=Kl HG HW hp h1
  have:=wt.cnt
  exact Xuf HG HW HT ih hL least _ _ _ _ _ (Xhn HG HW HT ih hL ha hl hp h1) (by omega) wt.le wt.n0 wt.n1 _ _ _ h2
theorem Xrd {W:WP} {L:List UInt8} (HW:WGood W L) (HT:WFit W L) (hL:L.length≤5000):∀f,Xuc L (Up W L f):=by
 intro f
 induction f with
 |zero=>intro least fs p _ _ _ n fs' q h;cases h
 | succ f ih =>
  intro least fs p ha hl hp n fs' q h
  rw[Up] at h
  exact Xzy (Xfu HW f) HW HT ih hL _ _ _ ha hl hp _ _ _ h
theorem Xvk {L:List UInt8}:∀p t q,p≤L.length→txJ L p=some (t,q)→p≤q∧q≤L.length:=fun p t q _ h=>by
 obtain ⟨h1,h2,-,-⟩:=Xi5 _ _ _ _ (Nat.le_refl _) h;exact ⟨by omega,h2⟩
theorem Xvl (L:List UInt8):WFit WPr L where
 dec:=fun l v h=>by
  have h1:Q8 l=some v:=h
  unfold Q8 at h1
  split at h1
  ·rename_i u e
   split at h1
   ·simp only[Option.some.injEq] at h1
    subst h1
    have:=Lib.parseIntB_bounds e
    omega
   ·cases h1
  ·cases h1
 tex:=fun p t q hp h=>by
  obtain ⟨h1,h2,h3,-⟩:=Xi5 _ _ _ _ (Nat.le_refl _) (show txJ L p=some (t,q) from h);omega
theorem X0z (L:List UInt8):WFit WSp L where
 dec:=fun l v h=>by have:=(Xg9 (show Q6 l=some v from h)).2;omega
 tex:=fun p t q hp h=>(Xvl L).tex p t q hp ((Xtg L).tex p _ h)
theorem Xn6 (L:List UInt8):WGood WPr L:=Xyv L Xvk
theorem Xvm (L:List UInt8):WGood WSp L:=Xyw L Xvk

def z0 (_:Nat):Nat:=0
def PbF (NC NN NI BC BN BI:Nat→Nat) (i x:Nat):Prop:=(0<NC i∧x=BC i)∨(0<NN i∧x=BN i)∨(0<NI i∧x=BI i)
structure MkyF (lo:Nat) (w:World) (b n:Nat) (NC NN NI BC BN BI:Nat→Nat) (c:Nat):Prop where
 low:lo≤b
 lt:b<w.heap.size
 few:n≤4000
 row:Xgb w b (n *6)
 le:∀i,i<n→NC i≤1∧NN i≤100000∧NI i≤100000
 c3:∀i,c≤i→i<n→∃a p,w.cell? ⟨b,i *6+3,none⟩=some (.slice a (NC i) p)∧(0<NC i→a=some ⟨BC i,0,none⟩∧Marky lo w (BC i) (NC i) z0 z0 z0 z0)
 c4:∀i,c≤i→i<n→∃a p,w.cell? ⟨b,i *6+4,none⟩=some (.slice a (NN i) p)∧(0<NN i→a=some ⟨BN i,0,none⟩∧lo≤BN i∧BN i<w.heap.size∧Xgb w (BN i) (NN i))
 c5:∀i,c≤i→i<n→∃a p,w.cell? ⟨b,i *6+5,none⟩=some (.slice a (NI i) p)∧(0<NI i→a=some ⟨BI i,0,none⟩∧lo≤BI i∧BI i<w.heap.size∧Xgb w (BI i) (NI i))
 dis:∀i j,i<n→j<n→i≠j→∀x,PbF NC NN NI BC BN BI i x→¬PbF NC NN NI BC BN BI j x
 inn:∀i,i<n→(0<NC i→0<NN i→BC i≠BN i)∧(0<NC i→0<NI i→BC i≠BI i)∧(0<NN i→0<NI i→BN i≠BI i)
 off:∀i,i<n→∀x,PbF NC NN NI BC BN BI i x→x≠b∧x<w.heap.size
structure HNdF (w:World) (b i:Nat) (NC NN NI BC BN BI:Nat→Nat) (o:Nat):Prop where
 lt:b<w.heap.size
 c0:w.cell? ⟨b,i *6,none⟩=some (.int .i64 (o:Nat))
 c1:w.cell? ⟨b,i *6+1,none⟩=some (.string (Xe5 (o+1)))
 c2:w.cell? ⟨b,i *6+2,none⟩=some (.int .i64 (o+2:Nat))
 c3:∃a p,w.cell? ⟨b,i *6+3,none⟩=some (.slice a (NC i) p)∧(0<NC i→a=some ⟨BC i,0,none⟩)∧∀j,j<NC i→HNode w (BC i) j 0 0 0 0 (off z0 z0 (o+3) j)
 c4:∃a p,w.cell? ⟨b,i *6+4,none⟩=some (.slice a (NN i) p)∧(0<NN i→a=some ⟨BN i,0,none⟩∧BN i<w.heap.size∧∀j,j<NN i→w.cell? ⟨BN i,j,none⟩=some (.string (Xe5 (o+3+3 *NC i+j))))
 c5:∃a p,w.cell? ⟨b,i *6+5,none⟩=some (.slice a (NI i) p)∧(0<NI i→a=some ⟨BI i,0,none⟩∧BI i<w.heap.size∧∀j,j<NI i→w.cell? ⟨BI i,j,none⟩=some (.int .i64 (o+3+3 *NC i+NN i+j:Nat)))
section
variable {lo b n:Nat} {w w':World} {NC NN NI BC BN BI:Nat→Nat}
structure TurnF (b c:Nat) (P:Nat→Prop) (w w':World):Prop where
 size:w.heap.size≤w'.heap.size
 row:∀o,o≠c *6→o≠c *6+1→o≠c *6+2→w'.cell? ⟨b,o,none⟩=w.cell? ⟨b,o,none⟩
 rest:∀x,x<w.heap.size→x≠b→¬P x→w'.heap[x]? =w.heap[x]?
end

open Go.RowKit Go.WideShapes
set_option maxRecDepth 100000 in
theorem X0s (B:Nat) (x:FN) (f:Nat) (fs:List FN) (hkd:x.kind=2):Q5 B x (Xg (Xf fs f) x) f fs:=by
 intro w bv o N cap n kc kn ki least hfs hx hok hkids hS hl1 hl6
 obtain ⟨⟨c0,c1,c2,c3,c4,c5,hinn⟩,hbv,hB,hn,hN⟩:=hx
 have hLV:=Xr x.kind
 obtain ⟨f8,f9,fo,f2,f3,f5,fz,fzn⟩:=Yg hok
 have hnN:(n:Int)<(N:Int):=by omega
 obtain ⟨_,aC,cC,rfl,hcc⟩:=hinn.cst
 obtain ⟨_,hks,aK,cK,rfl,hkc⟩:=hinn.names
 obtain ⟨_,_,aI,cI,rfl,hic⟩:=hinn.kids
 obtain ⟨M,hM⟩:∃M,x.kids.length=M:=⟨_,rfl⟩
 obtain ⟨MK,hMK⟩:∃MK,x.names.length=MK:=⟨_,rfl⟩
 obtain ⟨MC,hMC⟩:∃MC,x.cst.length=MC:=⟨_,rfl⟩
 have HMM:=Xb hM
 have HMK:=Xb hMK
 have HMC:=Xb hMC
 rw[hM] at c5 hic f8 f9 fo
 rw[hMK] at c4 hkc f9 fzn
 rw[hMC] at c3 hcc
 rw[hM] at hkids
 have HCC:=Xb hcc
 have HKC:=Xb hkc
 have HIC:=Xb hic
 clear hcc hkc hic hM hMK hMC hinn
 have HLV:Hid (∀W,Calls Tryz.prog 61 #[.int .i64 2] W fun e w'=>e= .returned (.int .i64 7)∧w'=W):=fun W=>Xr 2 W (by omega) (by omega)
 rw[hkd] at c0⊢
 rw[show Xp 2=7 from rfl]
 have HB6:Hid (Xg (Xf fs f) x=Xg (Xf fs f) x):=rfl
 have hsz:x.name.size≤60:=by have:=f2 hkd;unfold Ya at this;simp only[Bool.and_eq_true,decide_eq_true_eq] at this;exact this.1.1.2
 clear f8 f9 fo f2 f3 f5 fz fzn hfs hkids hLV HB6 HCC HKC HIC
 have HSB:Hid (Xg (Xf fs f) x=46::x.name.data.toList):=by rw[Hid,Xg,hkd];simp
 obtain ⟨S,hSS⟩:∃S,Xg (Xf fs f) x=S:=⟨_,rfl⟩
 rw[hSS] at hS HSB⊢
 clear hSS
 have hll:¬(7:Int)<least:=by omega
 rw[if_neg hll]
 go_enter Tryz.func25,Tryz.ntmps25
 go_wp2_with (go_at_call 61;refine (HLV.out _).mono ?_;rintro e w1 ⟨rfl,rfl⟩)
 go_wp2_with fail
 go_ret
 exact ⟨Z6 (txt_of (by rw[HSB.out];simp)),(Below.refl _ _).alloc (Nat.le_refl _) _⟩
set_option maxRecDepth 100000 in
theorem X0t (B:Nat) (x:FN) (f:Nat) (fs:List FN) (hkd:x.kind=3):Q5 B x (Xg (Xf fs f) x) f fs:=by
 intro w bv o N cap n kc kn ki least hfs hx hok hkids hS hl1 hl6
 obtain ⟨⟨c0,c1,c2,c3,c4,c5,hinn⟩,hbv,hB,hn,hN⟩:=hx
 have hLV:=Xr x.kind
 obtain ⟨f8,f9,fo,f2,f3,f5,fz,fzn⟩:=Yg hok
 have hnN:(n:Int)<(N:Int):=by omega
 obtain ⟨_,aC,cC,rfl,hcc⟩:=hinn.cst
 obtain ⟨_,hks,aK,cK,rfl,hkc⟩:=hinn.names
 obtain ⟨_,_,aI,cI,rfl,hic⟩:=hinn.kids
 obtain ⟨M,hM⟩:∃M,x.kids.length=M:=⟨_,rfl⟩
 obtain ⟨MK,hMK⟩:∃MK,x.names.length=MK:=⟨_,rfl⟩
 obtain ⟨MC,hMC⟩:∃MC,x.cst.length=MC:=⟨_,rfl⟩
 have HMM:=Xb hM
 have HMK:=Xb hMK
 have HMC:=Xb hMC
 rw[hM] at c5 hic f8 f9 fo
 rw[hMK] at c4 hkc f9 fzn
 rw[hMC] at c3 hcc
 rw[hM] at hkids
 have HCC:=Xb hcc
 have HKC:=Xb hkc
 have HIC:=Xb hic
 clear hcc hkc hic hM hMK hMC hinn
 have HLV:Hid (∀W,Calls Tryz.prog 61 #[.int .i64 3] W fun e w'=>e= .returned (.int .i64 7)∧w'=W):=fun W=>Xr 3 W (by omega) (by omega)
 rw[hkd] at c0⊢
 rw[show Xp 3=7 from rfl]
 have HB6:Hid (Xg (Xf fs f) x=Xg (Xf fs f) x):=rfl
 have hpl:=f3 hkd
 have HDEC:Hid (∀W,Calls Tryz.prog 62 #[.int .i64 x.place] W fun e w'=>e= .returned (.string (txt (Lib.itoa x.place)))∧Below W.heap.size W w'):=fun W=>Uc x.place W (by omega) (by omega)
 have hil:=Lib.itoa_length_le x.place (by omega) (by omega)
 have hsz:(txt (Lib.itoa x.place)).size≤60:=by rw[Xo];omega
 clear f8 f9 fo f2 f3 f5 fz fzn hfs hkids hLV HB6 HCC HKC HIC
 have HSB:Hid (Xg (Xf fs f) x= [46,91]++Lib.itoa x.place++ [93]):=by rw[Hid,Xg,hkd];simp
 obtain ⟨S,hSS⟩:∃S,Xg (Xf fs f) x=S:=⟨_,rfl⟩
 rw[hSS] at hS HSB⊢
 clear hSS
 obtain ⟨D,hD⟩:∃D,Lib.itoa x.place=D:=⟨_,rfl⟩
 rw[hD] at HDEC HSB hsz
 clear hD hil
 have hll:¬(7:Int)<least:=by omega
 rw[if_neg hll]
 go_enter Tryz.func25,Tryz.ntmps25
 go_wp2_with (go_at_call 61;refine (HLV.out _).mono ?_;rintro e w1 ⟨rfl,rfl⟩)
 go_wp2_with (go_at_call 62;refine (HDEC.out _).mono ?_;rintro e w2 ⟨rfl,hb2⟩)
 have HB2:=Xb (((Below.refl _ _).alloc (Nat.le_refl _) _).trans (hb2.mono (by simp)))
 clear hb2
 go_wp2_with fail
 go_ret
 exact ⟨Z6 (txt_of (by rw[HSB.out];simp[Xz])),HB2.out⟩
set_option maxRecDepth 100000 in
theorem X0u (B:Nat) (x:FN) (f:Nat) (fs:List FN) (hkd:x.kind=5):Q5 B x (Xg (Xf fs f) x) f fs:=by
 intro w bv o N cap n kc kn ki least hfs hx hok hkids hS hl1 hl6
 obtain ⟨⟨c0,c1,c2,c3,c4,c5,hinn⟩,hbv,hB,hn,hN⟩:=hx
 have hLV:=Xr x.kind
 obtain ⟨f8,f9,fo,f2,f3,f5,fz,fzn⟩:=Yg hok
 have hnN:(n:Int)<(N:Int):=by omega
 obtain ⟨_,aC,cC,rfl,hcc⟩:=hinn.cst
 obtain ⟨_,hks,aK,cK,rfl,hkc⟩:=hinn.names
 obtain ⟨_,_,aI,cI,rfl,hic⟩:=hinn.kids
 obtain ⟨M,hM⟩:∃M,x.kids.length=M:=⟨_,rfl⟩
 obtain ⟨MK,hMK⟩:∃MK,x.names.length=MK:=⟨_,rfl⟩
 obtain ⟨MC,hMC⟩:∃MC,x.cst.length=MC:=⟨_,rfl⟩
 have HMM:=Xb hM
 have HMK:=Xb hMK
 have HMC:=Xb hMC
 rw[hM] at c5 hic f8 f9 fo
 rw[hMK] at c4 hkc f9 fzn
 rw[hMC] at c3 hcc
 rw[hM] at hkids
 have HCC:=Xb hcc
 have HKC:=Xb hkc
 have HIC:=Xb hic
 clear hcc hkc hic hM hMK hMC hinn
 have HLV:Hid (∀W,Calls Tryz.prog 61 #[.int .i64 5] W fun e w'=>e= .returned (.int .i64 7)∧w'=W):=fun W=>Xr 5 W (by omega) (by omega)
 rw[hkd] at c0⊢
 rw[show Xp 5=7 from rfl]
 have HB6:Hid (Xg (Xf fs f) x=Xg (Xf fs f) x):=rfl
 have hcs:=f5 hkd
 unfold Q9 at hcs
 simp only[Bool.and_eq_true,decide_eq_true_eq] at hcs
 obtain ⟨⟨⟨e1,e2⟩,e3⟩,e4⟩:=hcs
 have eMC:MC=1:=HMC.out.symm.trans e1
 subst eMC
 obtain ⟨bc,oc,rfl,hbc,hnd⟩:=HCC.out (by omega)
 obtain ⟨ka,kk,hnd⟩:=hnd 0 (by omega)
 have d0:=hnd.c0
 have d1:=hnd.c1
 have d2:=hnd.c2
 have d3:=hnd.c3
 have d4:=hnd.c4
 rw[show oc+0 *5=oc by omega] at d0 d1 d2 d3 d4
 obtain ⟨_,_,aA,cA,eA,_⟩:=hnd.inn.keys
 obtain ⟨_,_,aD,cD,eD,_⟩:=hnd.inn.kids
 have HSC:=Xb (fun W=>Xjt 0 0 false (Xc x.cst 0).kind (Xc x.cst 0).n (Xc x.cst 0).s ka kk (Xc x.cst 0).keys ((Xc x.cst 0).kids.map fun k=>Yp x.cst 0 k.toNat) W (by
  rcases Wx e2 (show 0<x.cst.length by omega) with k|⟨k,q1,q2⟩|⟨k,q1,q2⟩|⟨k,q1⟩|k|⟨k,q1,q2⟩
  ·exact .inl k
  ·exact .inr (.inl ⟨k,q1,q2⟩)
  ·exact .inr (.inr (.inl ⟨k,q1,q2⟩))
  ·exact .inr (.inr (.inr ⟨k,q1⟩))
  ·exact absurd k e3
  ·exact absurd k e4))
 have HCT:Hid (Yn false (0+1) 0 (.mk (Xc x.cst 0).kind (Xc x.cst 0).n (Xc x.cst 0).s (Xc x.cst 0).keys ((Xc x.cst 0).kids.map fun k=>Yp x.cst 0 k.toNat))=J1 x.cst):=rfl
 rw[HCT.out] at HSC
 clear hnd e1 e2 e3 e4
 clear f8 f9 fo f2 f3 f5 fz fzn hfs hkids hLV HB6 HCC HKC HIC
 have HSB:Hid (Xg (Xf fs f) x=J1 x.cst):=by rw[Hid,Xg,hkd];simp
 obtain ⟨S,hSS⟩:∃S,Xg (Xf fs f) x=S:=⟨_,rfl⟩
 rw[hSS] at hS HSB⊢
 clear hSS
 rw[←HSB.out] at HSC
 subst eA eD
 obtain ⟨kd,hkd2⟩:∃kd,(Xc x.cst 0).kind=kd:=⟨_,rfl⟩
 obtain ⟨nn,hnn⟩:∃nn,(Xc x.cst 0).n=nn:=⟨_,rfl⟩
 obtain ⟨ss,hss⟩:∃ss,(Xc x.cst 0).s=ss:=⟨_,rfl⟩
 rw[hkd2,hnn,hss] at HSC
 rw[hkd2] at d0
 rw[hnn] at d1
 rw[hss] at d2
 clear hkd2 hnn hss HCT
 obtain ⟨ML,hML⟩:∃ML,(Xc x.cst 0).keys.length=ML:=⟨_,rfl⟩
 obtain ⟨MJ,hMJ⟩:∃MJ,(Xc x.cst 0).kids.length=MJ:=⟨_,rfl⟩
 rw[hML] at d3 HSC
 rw[hMJ] at d4 HSC
 clear hML hMJ
 have hbz:bc<w.heap.size:=by omega
 have hbn:¬bc=w.heap.size:=by omega
 have hll:¬(7:Int)<least:=by omega
 rw[if_neg hll]
 go_enter Tryz.func25,Tryz.ntmps25
 go_wp2_with (go_at_call 61;refine (HLV.out _).mono ?_;rintro e w1 ⟨rfl,rfl⟩)
 go_wp2_with (go_at_call 63;refine (HSC.out _).mono ?_;rintro e w2 ⟨rfl,hb2⟩)
 have HB2:=Xb (((Below.refl _ _).alloc (Nat.le_refl _) _).trans (hb2.mono (by simp)))
 clear hb2
 go_wp2_with fail
 go_ret
 exact ⟨rfl,HB2.out⟩
set_option maxRecDepth 100000 in
theorem Xzq (B:Nat) (x:FN) (f:Nat) (fs:List FN) (ih:Kv B fs f) (hkd:x.kind=10):Q5 B x (Xg (Xf fs f) x) f fs:=by
 intro w bv o N cap n kc kn ki least hfs hx hok hkids hS hl1 hl6
 obtain ⟨⟨c0,c1,c2,c3,c4,c5,hinn⟩,hbv,hB,hn,hN⟩:=hx
 have hLV:=Xr x.kind
 obtain ⟨f8,f9,fo,f2,f3,f5,fz,fzn⟩:=Yg hok
 have hnN:(n:Int)<(N:Int):=by omega
 obtain ⟨_,aC,cC,rfl,hcc⟩:=hinn.cst
 obtain ⟨_,hks,aK,cK,rfl,hkc⟩:=hinn.names
 obtain ⟨_,_,aI,cI,rfl,hic⟩:=hinn.kids
 obtain ⟨M,hM⟩:∃M,x.kids.length=M:=⟨_,rfl⟩
 obtain ⟨MK,hMK⟩:∃MK,x.names.length=MK:=⟨_,rfl⟩
 obtain ⟨MC,hMC⟩:∃MC,x.cst.length=MC:=⟨_,rfl⟩
 have HMM:=Xb hM
 have HMK:=Xb hMK
 have HMC:=Xb hMC
 rw[hM] at c5 hic f8 f9 fo
 rw[hMK] at c4 hkc f9 fzn
 rw[hMC] at c3 hcc
 rw[hM] at hkids
 have HCC:=Xb hcc
 have HKC:=Xb hkc
 have HIC:=Xb hic
 clear hcc hkc hic hM hMK hMC hinn
 have HLV:Hid (∀W,Calls Tryz.prog 61 #[.int .i64 10] W fun e w'=>e= .returned (.int .i64 7)∧w'=W):=fun W=>Xr 10 W (by omega) (by omega)
 rw[hkd] at c0⊢
 rw[show Xp 10=7 from rfl]
 have HB6:Hid (Xg (Xf fs f) x=Xg (Xf fs f) x):=rfl
 have eM:M=1:=by have:=(fo (by omega) (by omega)).2.2;rw[hkd] at this;simp[kidsN] at this;omega
 subst eM
 have HIH:Hid (∀(q:Nat) (l:Int) W,Below w.heap.size w W→q<f→q<fs.length→1≤l→l≤6→Calls Tryz.prog 25 #[.slice (some ⟨bv,o,none⟩) N cap, .int .i64 q, .int .i64 l] W fun e w'=>e= .returned (.string (txt (Xf fs f q l)))∧Below W.heap.size W w'):=fun q l W hb h1 h2 h3 h4=>ih _ q l W (hfs.below (hb.mono hB)) (Nat.le_trans hB hb.size) h1 h2 h3 h4
 obtain ⟨bi,oi,rfl,hbi,hci⟩:=HIC.out (by omega)
 have hbz:bi<w.heap.size:=by omega
 have hbn:¬bi=w.heap.size:=by omega
 obtain ⟨q0,hq0,hf0,hs0,hz0⟩:=hkids 0 (by omega)
 have ci0:=hci 0 (by omega)
 rw[hq0] at ci0
 rw[Nat.add_zero] at ci0
 have HK0:=Xb (fun W hb=>HIH.out q0 1 W hb hf0 hs0 (by omega) (by omega))
 have hzk0:=hz0 1
 obtain ⟨r0,hr0⟩:∃r,Xf fs f q0 1=r:=⟨_,rfl⟩
 have HSB:Hid (Xg (Xf fs f) x= [115,101,108,101,99,116,40]++Xf fs f (Xk x.kids 0) 1++ [41]):=by rw[Hid,Xg,hkd];simp
 obtain ⟨S,hSS⟩:∃S,Xg (Xf fs f) x=S:=⟨_,rfl⟩
 rw[hSS] at hS HSB⊢
 clear hSS
 rw[hq0,hr0] at HSB
 rw[hr0] at HK0 hzk0
 rw[←Xo] at hzk0
 clear hz0 hr0 hq0 hf0 hs0
 clear hci HIH ih
 clear f8 f9 fo f2 f3 f5 fz fzn hfs hkids hLV HB6 HCC HKC HIC
 have hll:¬(7:Int)<least:=by omega
 rw[if_neg hll]
 go_enter Tryz.func25,Tryz.ntmps25
 go_wp2_with (go_at_call 61;refine (HLV.out _).mono ?_;rintro e w1 ⟨rfl,rfl⟩)
 go_wp2_with (go_at_call 25;refine (HK0.out _ ((Below.refl _ _).alloc (Nat.le_refl _) _)).mono ?_;rintro e w2 ⟨rfl,hb2⟩)
 have HB2:=Xb (((Below.refl _ _).alloc (Nat.le_refl _) _).trans (hb2.mono (by simp)))
 clear hb2
 go_wp2_with fail
 go_ret
 exact ⟨Z6 (txt_of (by rw[HSB.out];simp[Xz])),HB2.out⟩
set_option maxRecDepth 100000 in
theorem X0v (B:Nat) (x:FN) (f:Nat) (fs:List FN) (ih:Kv B fs f) (hkd:x.kind=8):Q5 B x (Xg (Xf fs f) x) f fs:=by
 intro w bv o N cap n kc kn ki least hfs hx hok hkids hS hl1 hl6
 obtain ⟨⟨c0,c1,c2,c3,c4,c5,hinn⟩,hbv,hB,hn,hN⟩:=hx
 have hLV:=Xr x.kind
 obtain ⟨f8,f9,fo,f2,f3,f5,fz,fzn⟩:=Yg hok
 have hnN:(n:Int)<(N:Int):=by omega
 obtain ⟨_,aC,cC,rfl,hcc⟩:=hinn.cst
 obtain ⟨_,hks,aK,cK,rfl,hkc⟩:=hinn.names
 obtain ⟨_,_,aI,cI,rfl,hic⟩:=hinn.kids
 obtain ⟨M,hM⟩:∃M,x.kids.length=M:=⟨_,rfl⟩
 obtain ⟨MK,hMK⟩:∃MK,x.names.length=MK:=⟨_,rfl⟩
 obtain ⟨MC,hMC⟩:∃MC,x.cst.length=MC:=⟨_,rfl⟩
 have HMM:=Xb hM
 have HMK:=Xb hMK
 have HMC:=Xb hMC
 rw[hM] at c5 hic f8 f9 fo
 rw[hMK] at c4 hkc f9 fzn
 rw[hMC] at c3 hcc
 rw[hM] at hkids
 have HCC:=Xb hcc
 have HKC:=Xb hkc
 have HIC:=Xb hic
 clear hcc hkc hic hM hMK hMC hinn
 have HLV:Hid (∀W,Calls Tryz.prog 61 #[.int .i64 8] W fun e w'=>e= .returned (.int .i64 7)∧w'=W):=fun W=>Xr 8 W (by omega) (by omega)
 rw[hkd] at c0⊢
 rw[show Xp 8=7 from rfl]
 have HB6:Hid (Xg (Xf fs f) x=Xg (Xf fs f) x):=rfl
 have eM:M≤1:=f8 hkd
 have HIH:Hid (∀(q:Nat) (l:Int) W,Below w.heap.size w W→q<f→q<fs.length→1≤l→l≤6→Calls Tryz.prog 25 #[.slice (some ⟨bv,o,none⟩) N cap, .int .i64 q, .int .i64 l] W fun e w'=>e= .returned (.string (txt (Xf fs f q l)))∧Below W.heap.size W w'):=fun q l W hb h1 h2 h3 h4=>ih _ q l W (hfs.below (hb.mono hB)) (Nat.le_trans hB hb.size) h1 h2 h3 h4
 rcases (show M=0∨M=1 by omega) with rfl|rfl
 ·have HSB:Hid (Xg (Xf fs f) x= [91,93]):=by rw[Hid,Xg,hkd];simp[HMM.out]
  obtain ⟨S,hSS⟩:∃S,Xg (Xf fs f) x=S:=⟨_,rfl⟩
  rw[hSS] at hS HSB⊢
  clear hSS
  clear f8 f9 fo f2 f3 f5 fz fzn hfs hkids hLV HB6 HCC HKC HIC
  have hll:¬(7:Int)<least:=by omega
  rw[if_neg hll]
  go_enter Tryz.func25,Tryz.ntmps25
  go_wp2_with (go_at_call 61;refine (HLV.out _).mono ?_;rintro e w1 ⟨rfl,rfl⟩)
  go_wp2_with fail
  go_ret
  exact ⟨Z6 (txt_of (by rw[HSB.out];simp)),(Below.refl _ _).alloc (Nat.le_refl _) _⟩
 obtain ⟨bi,oi,rfl,hbi,hci⟩:=HIC.out (by omega)
 have hbz:bi<w.heap.size:=by omega
 have hbn:¬bi=w.heap.size:=by omega
 obtain ⟨q0,hq0,hf0,hs0,hz0⟩:=hkids 0 (by omega)
 have ci0:=hci 0 (by omega)
 rw[hq0] at ci0
 rw[Nat.add_zero] at ci0
 have HK0:=Xb (fun W hb=>HIH.out q0 1 W hb hf0 hs0 (by omega) (by omega))
 have hzk0:=hz0 1
 obtain ⟨r0,hr0⟩:∃r,Xf fs f q0 1=r:=⟨_,rfl⟩
 have HSB:Hid (Xg (Xf fs f) x= [91]++Xf fs f (Xk x.kids 0) 1++ [93]):=by rw[Hid,Xg,hkd];simp[HMM.out]
 obtain ⟨S,hSS⟩:∃S,Xg (Xf fs f) x=S:=⟨_,rfl⟩
 rw[hSS] at hS HSB⊢
 clear hSS
 rw[hq0,hr0] at HSB
 rw[hr0] at HK0 hzk0
 rw[←Xo] at hzk0
 clear hz0 hr0 hq0 hf0 hs0
 clear hci HIH ih
 clear f8 f9 fo f2 f3 f5 fz fzn hfs hkids hLV HB6 HCC HKC HIC
 have hll:¬(7:Int)<least:=by omega
 rw[if_neg hll]
 go_enter Tryz.func25,Tryz.ntmps25
 go_wp2_with (go_at_call 61;refine (HLV.out _).mono ?_;rintro e w1 ⟨rfl,rfl⟩)
 go_wp2_with (go_at_call 25;refine (HK0.out _ ((Below.refl _ _).alloc (Nat.le_refl _) _)).mono ?_;rintro e w2 ⟨rfl,hb2⟩)
 have HB2:=Xb (((Below.refl _ _).alloc (Nat.le_refl _) _).trans (hb2.mono (by simp)))
 clear hb2
 go_wp2_with fail
 go_ret
 exact ⟨Z6 (txt_of (by rw[HSB.out];simp[Xz])),HB2.out⟩
set_option maxRecDepth 100000 in
theorem Xzr (B:Nat) (x:FN) (f:Nat) (fs:List FN) (ih:Kv B fs f) (hkd:x.kind=23):Q5 B x (Xg (Xf fs f) x) f fs:=by
 intro w bv o N cap n kc kn ki least hfs hx hok hkids hS hl1 hl6
 obtain ⟨⟨c0,c1,c2,c3,c4,c5,hinn⟩,hbv,hB,hn,hN⟩:=hx
 have hLV:=Xr x.kind
 obtain ⟨f8,f9,fo,f2,f3,f5,fz,fzn⟩:=Yg hok
 have hnN:(n:Int)<(N:Int):=by omega
 obtain ⟨_,aC,cC,rfl,hcc⟩:=hinn.cst
 obtain ⟨_,hks,aK,cK,rfl,hkc⟩:=hinn.names
 obtain ⟨_,_,aI,cI,rfl,hic⟩:=hinn.kids
 obtain ⟨M,hM⟩:∃M,x.kids.length=M:=⟨_,rfl⟩
 obtain ⟨MK,hMK⟩:∃MK,x.names.length=MK:=⟨_,rfl⟩
 obtain ⟨MC,hMC⟩:∃MC,x.cst.length=MC:=⟨_,rfl⟩
 have HMM:=Xb hM
 have HMK:=Xb hMK
 have HMC:=Xb hMC
 rw[hM] at c5 hic f8 f9 fo
 rw[hMK] at c4 hkc f9 fzn
 rw[hMC] at c3 hcc
 rw[hM] at hkids
 have HCC:=Xb hcc
 have HKC:=Xb hkc
 have HIC:=Xb hic
 clear hcc hkc hic hM hMK hMC hinn
 have HLV:Hid (∀W,Calls Tryz.prog 61 #[.int .i64 23] W fun e w'=>e= .returned (.int .i64 6)∧w'=W):=fun W=>Xr 23 W (by omega) (by omega)
 rw[hkd] at c0⊢
 rw[show Xp 23=6 from rfl]
 have HB6:Hid (Xg (Xf fs f) x=Xg (Xf fs f) x):=rfl
 have eM:M=1:=by have:=(fo (by omega) (by omega)).2.2;rw[hkd] at this;simp[kidsN] at this;omega
 subst eM
 have HIH:Hid (∀(q:Nat) (l:Int) W,Below w.heap.size w W→q<f→q<fs.length→1≤l→l≤6→Calls Tryz.prog 25 #[.slice (some ⟨bv,o,none⟩) N cap, .int .i64 q, .int .i64 l] W fun e w'=>e= .returned (.string (txt (Xf fs f q l)))∧Below W.heap.size W w'):=fun q l W hb h1 h2 h3 h4=>ih _ q l W (hfs.below (hb.mono hB)) (Nat.le_trans hB hb.size) h1 h2 h3 h4
 obtain ⟨bi,oi,rfl,hbi,hci⟩:=HIC.out (by omega)
 have hbz:bi<w.heap.size:=by omega
 have hbn:¬bi=w.heap.size:=by omega
 obtain ⟨q0,hq0,hf0,hs0,hz0⟩:=hkids 0 (by omega)
 have ci0:=hci 0 (by omega)
 rw[hq0] at ci0
 rw[Nat.add_zero] at ci0
 have HK0:=Xb (fun W hb=>HIH.out q0 6 W hb hf0 hs0 (by omega) (by omega))
 have hzk0:=hz0 6
 obtain ⟨r0,hr0⟩:∃r,Xf fs f q0 6=r:=⟨_,rfl⟩
 have HSB:Hid (Xg (Xf fs f) x=Xf fs f (Xk x.kids 0) 6++ [63]):=by rw[Hid,Xg,hkd];simp
 obtain ⟨S,hSS⟩:∃S,Xg (Xf fs f) x=S:=⟨_,rfl⟩
 rw[hSS] at hS HSB⊢
 clear hSS
 rw[hq0,hr0] at HSB
 rw[hr0] at HK0 hzk0
 rw[←Xo] at hzk0
 clear hz0 hr0 hq0 hf0 hs0
 clear hci HIH ih
 clear f8 f9 fo f2 f3 f5 fz fzn hfs hkids hLV HB6 HCC HKC HIC
 have hll:¬(6:Int)<least:=by omega
 rw[if_neg hll]
 go_enter Tryz.func25,Tryz.ntmps25
 go_wp2_with (go_at_call 61;refine (HLV.out _).mono ?_;rintro e w1 ⟨rfl,rfl⟩)
 go_wp2_with (go_at_call 25;refine (HK0.out _ ((Below.refl _ _).alloc (Nat.le_refl _) _)).mono ?_;rintro e w2 ⟨rfl,hb2⟩)
 have HB2:=Xb (((Below.refl _ _).alloc (Nat.le_refl _) _).trans (hb2.mono (by simp)))
 clear hb2
 go_wp2_with fail
 go_ret
 exact ⟨Z6 (txt_of (by rw[HSB.out];simp[Xz])),HB2.out⟩

theorem Xeb {fs:List FN} {n q:Nat} {x:FN} (hn:n<fs.length) (hx:Xi fs n=x):Xu WPr x (fs.take n) q=some ((n:Int),fs.take (n+1),q):=by
 unfold Xu
 rw[if_neg (fun e=>by cases e.1),List.length_take,Nat.min_eq_left (Nat.le_of_lt hn),List.take_add_one,List.getElem?_eq_getElem hn]
 have:fs[n]=x:=by rw[←hx];unfold Xi;rw[List.getD_eq_getElem?_getD,List.getElem?_eq_getElem hn];rfl
 rw[this];rfl
theorem Xx {L:List UInt8} {p:Nat} {c:UInt8} {B:List UInt8} (h:Sit L p (c::B)):p<L.length∧Xh L p=c.toNat∧Sit L (p+1) B:=⟨h.one.1,h.one.2,h.next⟩
theorem Yd {L:List UInt8} {p c d:Nat} (hp:p<L.length) (h:Xh L p=c):Xe L p d=decide (c=d):=by
 unfold Xe;rw[h,decide_eq_true hp,Bool.true_and]
theorem U3 {L:List UInt8} {p c:Nat} (hp:p<L.length) (h:Xh L p=c):Yu L p=Yt c:=by unfold Yu;rw[h,decide_eq_true hp,Bool.true_and]
theorem Xso {L:List UInt8} {p c:Nat} (hp:p<L.length) (h:Xh L p=c):K7 L p=Zk c:=by unfold K7;rw[h,decide_eq_true hp,Bool.true_and]
section
variable {W:WP} {R:RD} {L:List UInt8} {fs:List FN} {p:Nat}
theorem Xdr (hp:p<L.length) (h:Xh L p=46):Xs W R L fs p=Ym W L fs (p+1):=by
 unfold Xs;rw[Yd hp h];rfl
theorem Xv6 (hp:p<L.length) (h:Xh L p=40):Xs W R L fs p=Zl R L 41 fs (skF L (p+1)):=by
 unfold Xs;rw[Yd hp h,Yd hp h];rfl
theorem Xly (hp:p<L.length) (h:Xh L p=91):Xs W R L fs p=Jo W R L fs (skF L (p+1)):=by
 unfold Xs;rw[Yd hp h,Yd hp h,Yd hp h];rfl
theorem Xsp (hp:p<L.length) (h:Xh L p=123):Xs W R L fs p=Jf W R L fs (skF L (p+1)):=by
 unfold Xs;rw[Yd hp h,Yd hp h,Yd hp h,Yd hp h];rfl
theorem Xv7 (hp:p<L.length) (h:Xh L p=34) {t:List UInt8} {q:Nat} (ht:W.tex L (p+1)=some (t,q)):Xs W R L fs p=Xu W (Zt ⟨4,0,txt t,[],[]⟩) fs (skF L q):=by
 unfold Xs;rw[Yd hp h,Yd hp h,Yd hp h,Yd hp h,Yd hp h,ht];rfl
theorem Xpj {c:Nat} (hp:p<L.length) (h:Xh L p=c) (hc:Yt c=true):Xs W R L fs p=X4 W R L (X9 L p) fs (skF L (nmJ L p)):=by
 have h1:∀d,(d=46∨d=40∨d=91∨d=123∨d=34)→¬Xe L p d=true:=fun d hd e=>by
  rw[Yd hp h] at e
  simp only[decide_eq_true_eq] at e
  subst e
  rcases hd with e|e|e|e|e<;>(subst e;revert hc;decide)
 unfold Xs
 rw[if_neg (h1 46 (by omega)),if_neg (h1 40 (by omega)),if_neg (h1 91 (by omega)),if_neg (h1 123 (by omega)),if_neg (h1 34 (by omega)),if_pos (by rw[U3 hp h];exact hc)]
theorem Xpk {c:Nat} (hp:p<L.length) (h:Xh L p=c) (hc:c=45∨Zk c=true):Xs W R L fs p=Qx W L p fun n q=>Xu W (Zt ⟨3,n,ByteArray.empty,[],[]⟩) fs q:=by
 have h1:∀d,(d=46∨d=40∨d=91∨d=123∨d=34)→¬Xe L p d=true:=fun d hd e=>by
  rw[Yd hp h] at e
  simp only[decide_eq_true_eq] at e
  subst e
  rcases hc with hc|hc
  ·omega
  ·rcases hd with e|e|e|e|e<;>(subst e;revert hc;decide)
 have h2:¬Yu L p=true:=fun e=>by
  rw[U3 hp h] at e
  rcases hc with hc|hc
  ·subst hc;revert e;decide
  ·unfold Zk at hc;unfold Yt at e;simp at hc e;omega
 unfold Xs
 rw[if_neg (h1 46 (by omega)),if_neg (h1 40 (by omega)),if_neg (h1 91 (by omega)),if_neg (h1 123 (by omega)),if_neg (h1 34 (by omega)),if_neg h2,if_pos]
 rcases hc with hc|hc
 ·left;rw[Yd hp h,decide_eq_true hc]
 ·right;rw[Xso hp h];exact hc
end
theorem Xpl (c:Nat):Zn c=Zk c:=by unfold Zn Zk;rw[Bool.eq_iff_iff];simp
theorem Xam {L:List UInt8} {p:Nat} {w:List UInt8} (h:Sit L p w) (hn:0<w.length) (hw:∀c∈w,nmC c.toNat=true) (hf:nmC (Xh L (p+w.length))=false):X9 L p=w∧nmJ L p=p+w.length:=by
 have hj:nmJ L p=p+w.length:=by
  refine Xgf (fun j hj=> ?_) h.len (fun e=>by rw[hf] at e;cases e.2)
  rw[h.byte (List.getElem?_eq_getElem hj)]
  exact hw _ (List.getElem_mem hj)
 refine ⟨?_,hj⟩
 unfold X9
 rw[hj,Nat.add_sub_cancel_left]
 obtain ⟨_,post,e⟩:=h
 rw[e,List.take_left]
theorem Xec {s:ByteArray} (h:Ya s=true):0<s.data.toList.length∧(∀c∈s.data.toList,nmC c.toNat=true)∧∀c r,s.data.toList=c::r→Yt c.toNat=true:=by
 unfold Ya at h
 simp only[Bool.and_eq_true,decide_eq_true_eq,List.all_eq_true,List.mem_range] at h
 obtain ⟨⟨⟨h1,h2⟩,h3⟩,h4⟩:=h
 have hb:∀j (hj:j<s.data.toList.length),Yq s j=(s.data.toList[j]).toNat:=fun j hj=>by
  unfold Yq
  congr 1
  rw[Array.getElem_toList]
  have:j<s.data.size:=by simpa using hj
  unfold Array.getD;exact dif_pos this
 refine ⟨by rw[Xm];exact h1,fun c hc=> ?_,fun c r e=> ?_⟩
 ·obtain ⟨j,hj,rfl⟩:=List.getElem_of_mem hc
  have:=h4 j (by rw[Xm] at hj;exact hj)
  rw[hb j hj] at this
  unfold nmC
  exact this
 ·have:=h3
  rw[hb 0 (by rw[e];simp)] at this
  simp only[e,List.getElem_cons_zero] at this
  exact this
theorem Xpm {L:List UInt8} {q:Nat} {v:Int} {k:Int→Nat→RF} (h:Sit L q (Lib.itoa v)) (h1: -1000000000000000≤v) (h2:v≤1000000000000000) (hn:nmC (Xh L (q+(Lib.itoa v).length))=false):Qx WPr L q k=k v (skF L (q+(Lib.itoa v).length)):=by
 have hj:=Xix h1 h2 h (fun e=>by
  have:=e.2
  rw[Xpl] at this
  unfold nmC at hn
  rw[this,Bool.or_true] at hn;cases hn)
 have hd:dgJ L (Yc L q)=q+(Lib.itoa v).length:=by
  unfold Xbk at hj
  split at hj
  ·cases hj
  ·simp only[Option.some.injEq,Prod.mk.injEq] at hj;exact hj.2
 have hw:Jb L q=Lib.itoa v:=by
  unfold Jb
  rw[hd,Nat.add_sub_cancel_left]
  obtain ⟨_,post,e⟩:=h
  rw[e,List.take_left]
 have hdec:WPr.dec (Jb L q)=some v:=by
  rw[hw]
  show Q8 (Lib.itoa v)=some v
  unfold Q8
  rw[Xgs h1 h2]
  simp
 unfold Qx
 rw[hdec,hd]
theorem Xv8 {L:List UInt8} {q c:Nat} (h:Xh L q=c) (hc:Yt c=true):X0 L q=none:=by
 have hn:∀x,(x=124∨x=44∨x=47∨x=61∨x=33∨x=60∨x=43∨x=45∨x=63)→Xe L q x=false:=fun x hx=>by
  rw[X7];rintro ⟨_,h2⟩
  have:c=x:=by omega
  subst this
  rcases hx with e|e|e|e|e|e|e|e|e<;>(subst e;revert hc;decide)
 unfold X0
 rw[hn 124 (by omega),hn 44 (by omega),hn 47 (by omega),hn 61 (by omega),hn 33 (by omega),hn 60 (by omega),hn 43 (by omega),hn 45 (by omega),hn 63 (by omega)]
 rfl
def Xbi (k:Int):Prop:=k=6∨k=7∨k=15∨k=16∨k=17∨k=18∨k=19∨k=20∨k=21
theorem Xv9 {L:List UInt8} {e:Nat} {k:Int} (hk:Xbi k) (h:Sit L e (Yl k)) (h2:Xh L (e+(Yl k).length)≠32) (h3:Xh L (e+(Yl k).length)≠10):
  ∃len,X0 L (skF L e)=some (k,len)∧skF L (skF L e+len)=e+(Yl k).length∧e≤skF L e∧skF L e<e+(Yl k).length∧skF L e<L.length∧Vq L e:=by
 have go1:∀a:UInt8,a≠32→a≠10→Yl k= [32,a,32]→(∀q,q<L.length→Xh L q=a.toNat→Xh L (q+1)=32→X0 L q=some (k,1))→∃len,X0 L (skF L e)=some (k,len)∧skF L (skF L e+len)=e+(Yl k).length∧e≤skF L e∧skF L e<e+(Yl k).length∧skF L e<L.length∧Vq L e:=by
  intro a ha ha2 hs hj
  rw[hs] at h h2 h3⊢
  obtain ⟨l0,b0,s1⟩:=Xx h
  obtain ⟨l1,b1,s2⟩:=Xx s1
  obtain ⟨l2,b2,_⟩:=Xx s2
  have na:a.toNat≠32:=fun e=>ha (UInt8.toNat_inj.1 e)
  have na2:a.toNat≠10:=fun e=>ha2 (UInt8.toNat_inj.1 e)
  have hq:skF L e=e+1:=J6 l0 b0 (by omega) (by omega)
  have hr:skF L (e+1+1)=e+1+1+1:=J6 l2 b2 h2 h3
  refine ⟨1,by rw[hq];exact hj _ l1 b1 b2,by rw[hq,hr];rfl,by omega,by rw[hq];show e+1<e+3;omega,by rw[hq];exact l1,Kq b0 (by decide)⟩
 have go2:∀a b:UInt8,a≠32→a≠10→Yl k= [32,a,b,32]→(∀q,q<L.length→Xh L q=a.toNat→q+1<L.length→Xh L (q+1)=b.toNat→X0 L q=some (k,2))→∃len,X0 L (skF L e)=some (k,len)∧skF L (skF L e+len)=e+(Yl k).length∧e≤skF L e∧skF L e<e+(Yl k).length∧skF L e<L.length∧Vq L e:=by
  intro a b ha ha2 hs hj
  rw[hs] at h h2 h3⊢
  obtain ⟨l0,b0,s1⟩:=Xx h
  obtain ⟨l1,b1,s2⟩:=Xx s1
  obtain ⟨l2,b2,s3⟩:=Xx s2
  obtain ⟨l3,b3,_⟩:=Xx s3
  have na:a.toNat≠32:=fun e=>ha (UInt8.toNat_inj.1 e)
  have na2:a.toNat≠10:=fun e=>ha2 (UInt8.toNat_inj.1 e)
  have hq:skF L e=e+1:=J6 l0 b0 (by omega) (by omega)
  have hr:skF L (e+1+1+1)=e+1+1+1+1:=J6 l3 b3 h2 h3
  refine ⟨2,by rw[hq];exact hj _ l1 b1 l2 b2,by rw[hq];exact hr,by omega,by rw[hq];show e+1<e+4;omega,by rw[hq];exact l1,Kq b0 (by decide)⟩
 rcases hk with rfl|rfl|rfl|rfl|rfl|rfl|rfl|rfl|rfl
 ·refine go1 124 (by decide) (by decide) rfl fun q hq hb _=> ?_
  unfold X0;rw[Yd hq hb];rfl
 ·have hs:Yl 7= [44,32]:=rfl
  rw[hs] at h h2 h3⊢
  obtain ⟨l0,b0,s1⟩:=Xx h
  obtain ⟨l1,b1,_⟩:=Xx s1
  have c0:Xh L e=44:=b0
  have hq:skF L e=e:=Zv (by omega) (by omega)
  have hr:skF L (e+1)=e+1+1:=J6 l1 b1 h2 h3
  refine ⟨1,by rw[hq];unfold X0;rw[Yd l0 c0,Yd l0 c0];rfl,by rw[hq,hr];rfl,by omega,by rw[hq];show e<e+2;omega,by rw[hq];exact l0,Kq b0 (by decide)⟩
 ·refine go1 43 (by decide) (by decide) rfl fun q hq hb _=> ?_
  have hb':Xh L q=43:=hb
  unfold X0;simp only[Yd hq hb'];rfl
 ·refine go1 45 (by decide) (by decide) rfl fun q hq hb _=> ?_
  have hb':Xh L q=45:=hb
  unfold X0;simp only[Yd hq hb'];rfl
 ·refine go2 61 61 (by decide) (by decide) rfl fun q hq hb hq1 hb1=> ?_
  have hb':Xh L q=61:=hb
  have hb1':Xh L (q+1)=61:=hb1
  unfold X0;simp only[Yd hq hb',Yd hq1 hb1'];rfl
 ·refine go2 33 61 (by decide) (by decide) rfl fun q hq hb hq1 hb1=> ?_
  have hb':Xh L q=33:=hb
  have hb1':Xh L (q+1)=61:=hb1
  unfold X0;simp only[Yd hq hb',Yd hq1 hb1'];rfl
 ·refine go1 60 (by decide) (by decide) rfl fun q hq hb hb1=> ?_
  have hb':Xh L q=60:=hb
  have h61:Xe L (q+1) 61=false:=by rw[X7];omega
  unfold X0;simp only[Yd hq hb',h61];rfl
 ·refine go2 60 61 (by decide) (by decide) rfl fun q hq hb hq1 hb1=> ?_
  have hb':Xh L q=60:=hb
  have hb1':Xh L (q+1)=61:=hb1
  unfold X0;simp only[Yd hq hb',Yd hq1 hb1'];rfl
 ·refine go2 47 47 (by decide) (by decide) rfl fun q hq hb hq1 hb1=> ?_
  have hb':Xh L q=47:=hb
  have hb1':Xh L (q+1)=47:=hb1
  unfold X0;simp only[Yd hq hb',Yd hq1 hb1'];rfl
theorem Xgt {R:RD} {L:List UInt8} {W:WP} {g:Nat} {least bind n:Int} {fs:List FN} {q:Nat} {k:Int} {len:Nat} (h:X0 L q=some (k,len)) (h1:least≤Xp k) (h2:Xei k≤bind):
  Zx R L W (g+1) least bind n fs q=Xy (Jr R L W k len n fs q) fun n fs q=>Zx R L W g least (Xp k) n fs q:=by
 rw[Zx,h]
 simp only
 rw[if_neg (by omega),if_neg (by omega)]
theorem Xpn {R:RD} {L:List UInt8} {W:WP} {g:Nat} {least bind n:Int} {fs:List FN} {q:Nat} (h:∀k len,X0 L q=some (k,len)→Xp k<least):Zx R L W (g+1) least bind n fs q=some (n,fs,q):=by
 rw[Zx]
 cases e:X0 L q with
 |none=>rfl
 | some x =>
  obtain ⟨k,len⟩:=x
  simp only
  rw[if_pos (h k len e)]

section
variable {R:Int→Int→List UInt8} {x:FN}
theorem Xvn (h:x.kind=1):Xg R x= [46]:=by unfold Xg;rw[h];rfl
theorem Xvo (h:x.kind=2):Xg R x=46::x.name.data.toList:=by unfold Xg;rw[h];rfl
theorem Xvp (h:x.kind=3):Xg R x= [46,91]++Lib.itoa x.place++ [93]:=by unfold Xg;rw[h];rfl
theorem Xvq (h:x.kind=4):Xg R x= [46,91,93]:=by unfold Xg;rw[h];rfl
theorem Xvr (h:x.kind=5):Xg R x=J1 x.cst:=by unfold Xg;rw[h];rfl
theorem Xvs (h:x.kind=8):Xg R x= [91]++(if x.kids.length=0 then [] else R (Xk x.kids 0) 1)++ [93]:=by unfold Xg;rw[h];rfl
theorem Xvt (h:x.kind=9):Xg R x= [123]++Yf R x.names x.kids x.kids.length++ [125]:=by unfold Xg;rw[h];rfl
theorem Xri (h:x.kind=10):Xg R x= [115,101,108,101,99,116,40]++R (Xk x.kids 0) 1++ [41]:=by unfold Xg;rw[h];rfl
theorem Xrj (h:x.kind=11):Xg R x= [108,101,110,103,116,104]:=by unfold Xg;rw[h];rfl
theorem Xrk (h:x.kind=12):Xg R x= [107,101,121,115]:=by unfold Xg;rw[h];rfl
theorem Xrl (h:x.kind=13):Xg R x= [110,111,116]:=by unfold Xg;rw[h];rfl
theorem Xrm (h:x.kind=14):Xg R x= [101,109,112,116,121]:=by unfold Xg;rw[h];rfl
theorem Xrn (h:x.kind=22):Xg R x= [105,102,32]++R (Xk x.kids 0) 1++ [32,116,104,101,110,32]++R (Xk x.kids 1) 1++ [32,101,108,115,101,32]++R (Xk x.kids 2) 1++ [32,101,110,100]:=by unfold Xg;rw[h];rfl
theorem Xro (h:x.kind=23):Xg R x=R (Xk x.kids 0) 6++ [63]:=by unfold Xg;rw[h];rfl
theorem Xrp (h:Xbi x.kind):Xg R x=R (Xk x.kids 0) (Ji x.kind)++Yl x.kind++R (Xk x.kids 1) (Qh x.kind):=by
 unfold Xg
 rcases h with h|h|h|h|h|h|h|h|h<;>(rw[h];rfl)
end
theorem Xch {k:Int} (h1:1≤k) (h2:k≤23):k=1∨k=2∨k=3∨k=4∨k=5∨k=8∨k=9∨k=10∨k=11∨k=12∨k=13∨k=14∨k=22∨k=23∨Xbi k:=by unfold Xbi;omega
theorem Xn7 {T:Nat→Option (Nat×Nat)} {a n:Nat} {l:List Int} (h:Vj T a l n) (hl:l.length=1):∃m p,l= [((m:Nat):Int)]∧T m=some p∧p.1=a∧m+1=n:=by
 match l,hl with
 | [k],_=>obtain ⟨m,p,rfl,h1,h2,h3⟩:=h;exact ⟨m,p,rfl,h1,h2,h3⟩
theorem X00 {T:Nat→Option (Nat×Nat)} {a n:Nat} {l:List Int} (h:Vj T a l n) (hl:l.length=2):∃m p m' p',l= [((m:Nat):Int),((m':Nat):Int)]∧T m=some p∧p.1=a∧T m'=some p'∧p'.1=m+1∧m'+1=n:=by
 match l,hl with
 | [k,k'],_=>obtain ⟨m,p,rfl,h1,h2,m',p',rfl,h3,h4,h5⟩:=h;exact ⟨m,p,m',p',rfl,h1,h2,h3,h4,h5⟩
theorem X01 {T:Nat→Option (Nat×Nat)} {a n:Nat} {l:List Int} (h:Vj T a l n) (hl:l.length=3):∃m p m' p' m'' p'',l= [((m:Nat):Int),((m':Nat):Int),((m'':Nat):Int)]∧T m=some p∧p.1=a∧T m'=some p'∧p'.1=m+1∧T m''=some p''∧p''.1=m'+1∧m''+1=n:=by
 match l,hl with
 | [k,k',k''],_=>obtain ⟨m,p,rfl,h1,h2,m',p',rfl,h3,h4,m'',p'',rfl,h5,h6,h7⟩:=h;exact ⟨m,p,m',p',m'',p'',rfl,h1,h2,h3,h4,h5,h6,h7⟩
theorem Xrq {fs:List FN} {m:Nat} {p:Nat×Nat} (h:tr (Yx fs) m=some p):Zj fs m≤m:=by rw[Q3 h];exact Gw h
theorem Xrr (k : Int) : 1 ≤ Xp k ∧ Xp k ≤ 7 := by
 unfold Xp; repeat' split
 all_goals omega
section
variable {fs:List FN} (hok:okF fs=true)
include hok
theorem V3 {L:List UInt8}:∀(N n:Nat),n<N→n<fs.length→∀F l p,n<F→Sit L p (Xf fs F (n:Int) l)→p<L.length∧Xh L p≠32∧Xh L p≠10∧Xh L p≠93:=by
 obtain ⟨o1,o2,o3,o4⟩:=Kd hok
 intro N
 induction N with
 |zero=>intro n h;omega
 | succ N ih =>
  intro n hN hn F l p hF h
  match F,hF with
  | F + 1, hF =>
   have fin:∀{c:UInt8} {B:List UInt8},Sit L p (c::B)→c.toNat≠32→c.toNat≠10→c.toNat≠93→p<L.length∧Xh L p≠32∧Xh L p≠10∧Xh L p≠93:=fun h a b c=>by
    obtain ⟨h1,h2,_⟩:=Xx h
    rw[h2];exact ⟨h1,a,b,c⟩
   rw[Xf] at h
   split at h
   ·exact fin (show Sit L p (40::(Xg (Xf fs F) (Xi fs (n:Int).toNat)++ [41])) from h) (by decide) (by decide) (by decide)
   ·rw[Int.toNat_natCast] at h
    obtain ⟨x,hx⟩:∃x,Xi fs n=x:=⟨_,rfl⟩
    have hb:=o2 n hn
    have hch:=Kj (o3 n hn)
    rw[hx] at h hb hch
    obtain ⟨z1,z2,z3,z4,z5,z6,z7,z8,z9,z10,z11⟩:=Ws hb
    have kid0:∀l',(∀B,Xg (Xf fs F) x=Xf fs F (Xk x.kids 0) l'++B→True)→(∃B,Xg (Xf fs F) x=Xf fs F (Xk x.kids 0) l'++B)→(∃k ks,x.kids=k::ks)→p<L.length∧Xh L p≠32∧Xh L p≠10∧Xh L p≠93:=by
     intro l' _ ⟨B,hB⟩ ⟨k,ks,hk⟩
     rw[hk] at hch
     obtain ⟨m,q,rfl,h1,h2,h3⟩:=hch
     have hm:m<n:=by
      have:=Xf9 (o3 n hn).choose_spec (m:Int) (by show (m:Int)∈(Xi fs n).kids;rw[hx,hk];exact List.mem_cons_self ..)
      omega
     rw[hB,hk] at h
     exact ih m (by omega) (by omega) F l' p (by omega) h.left
    rcases Xch z10 z11 with k|k|k|k|k|k|k|k|k|k|k|k|k|k|k
    ·rw[Xvn k] at h;exact fin h (by decide) (by decide) (by decide)
    ·rw[Xvo k] at h;exact fin h (by decide) (by decide) (by decide)
    ·rw[Xvp k] at h;exact fin (show Sit L p (46::_) from h) (by decide) (by decide) (by decide)
    ·rw[Xvq k] at h;exact fin h (by decide) (by decide) (by decide)
    ·rw[Xvr k] at h
     rcases Xjh (z7 k) with e|e|e|⟨v,e,_⟩|⟨t,e,_⟩
     ·rw[e] at h
      have e2:J1 [⟨1,0,ByteArray.empty,[],[]⟩]= [110,117,108,108]:=(Zz false 0 0).1 rfl
      rw[e2] at h;exact fin h (by decide) (by decide) (by decide)
     ·rw[e] at h
      have e2:J1 [⟨2,0,ByteArray.empty,[],[]⟩]= [102,97,108,115,101]:=(Zz false 0 0).2.1 rfl
      rw[e2] at h;exact fin h (by decide) (by decide) (by decide)
     ·rw[e] at h
      have e2:J1 [⟨2,1,ByteArray.empty,[],[]⟩]= [116,114,117,101]:=(Zz false 0 0).2.1 rfl
      rw[e2] at h;exact fin h (by decide) (by decide) (by decide)
     ·rw[e] at h
      have e2:J1 [⟨3,v,ByteArray.empty,[],[]⟩]=Lib.itoa v:=(Zz false 0 0).2.2.1 rfl
      rw[e2] at h
      obtain ⟨q1,q2⟩:=Xb5 h
      rcases q2 with q2|q2
      ·rw[q2];exact ⟨q1,by decide,by decide,by decide⟩
      ·unfold Zn at q2;simp at q2;exact ⟨q1,by omega,by omega,by omega⟩
     ·rw[e] at h
      have e2:J1 [⟨4,0,t,[],[]⟩]=Gp t:=(Zz false 0 0).2.2.2.1 rfl
      rw[e2] at h
      exact fin (show Sit L p (34::_) from h) (by decide) (by decide) (by decide)
    ·rw[Xvs k] at h;exact fin (show Sit L p (91::_) from h) (by decide) (by decide) (by decide)
    ·rw[Xvt k] at h;exact fin (show Sit L p (123::_) from h) (by decide) (by decide) (by decide)
    ·rw[Xri k] at h;exact fin (show Sit L p (115::_) from h) (by decide) (by decide) (by decide)
    ·rw[Xrj k] at h;exact fin h (by decide) (by decide) (by decide)
    ·rw[Xrk k] at h;exact fin h (by decide) (by decide) (by decide)
    ·rw[Xrl k] at h;exact fin h (by decide) (by decide) (by decide)
    ·rw[Xrm k] at h;exact fin h (by decide) (by decide) (by decide)
    ·rw[Xrn k] at h;exact fin (show Sit L p (105::_) from (by simpa using h)) (by decide) (by decide) (by decide)
    ·refine kid0 6 (fun _ _=>trivial) ⟨_,Xro k⟩ ?_
     have:=Xat hb (by omega) (by omega)
     rw[k] at this
     match hk:x.kids,this with
     |a::r,_=>exact ⟨a,r,rfl⟩
    ·refine kid0 (Ji x.kind) (fun _ _=>trivial) ⟨_,by rw[Xrp k,List.append_assoc]⟩ ?_
     have:=Xat hb (by unfold Xbi at k;omega) (by unfold Xbi at k;omega)
     have e2:kidsN x.kind=2:=by unfold kidsN;unfold Xbi at k;rw[if_pos (by omega)]
     rw[e2] at this
     match hk:x.kids,this with
     |a::r,_=>exact ⟨a,r,rfl⟩
end

def Xos (fs:List FN) (L:List UInt8) (n:Nat):Prop:=∀F l p f,n<F→1≤l→l≤6→Sit L p (Xf fs F (n:Int) l)→L.length<p+f→Vq L (p+(Xf fs F (n:Int) l).length)→Gy L l (p+(Xf fs F (n:Int) l).length)→
 Ys WPr L f l (fs.take (Zj fs n)) p=some ((n:Int),fs.take (n+1),skF L (p+(Xf fs F (n:Int) l).length))
def Xa2 (fs:List FN) (L:List UInt8) (n f G:Nat) (least l:Int) (p q:Nat):Prop:=∃G' bnd,L.length<skF L q+G'∧l≤bnd∧Xy (Xs WPr (Ys WPr L f) L (fs.take (Zj fs n)) p) (fun n fs q=>Zx (Ys WPr L f) L WPr G least 7 n fs q)=Zx (Ys WPr L f) L WPr G' least bnd (n:Int) (fs.take (n+1)) (skF L q)
def Xot (fs:List FN) (L:List UInt8) (n:Nat):Prop:=∀F l p f G least,n<F→1≤l→l≤6→least≤l→Sit L p (Xf fs F (n:Int) l)→L.length<p+(f+1)→L.length<p+G→Vq L (p+(Xf fs F (n:Int) l).length)→(l≤Xp (Xi fs n).kind→Gy L (G8 (Xi fs n).kind) (p+(Xf fs F (n:Int) l).length))→
 Xa2 fs L n f G least l p (p+(Xf fs F (n:Int) l).length)
def Xou (fs:List FN) (L:List UInt8) (n:Nat):Prop:=∀F l p f G least,n<F+1→1≤l→l≤6→l≤Xp (Xi fs n).kind→least≤l→Sit L p (Xg (Xf fs F) (Xi fs n))→L.length<p+(f+1)→L.length<p+G→Vq L (p+(Xg (Xf fs F) (Xi fs n)).length)→Gy L (G8 (Xi fs n).kind) (p+(Xg (Xf fs F) (Xi fs n)).length)→
 Xa2 fs L n f G least l p (p+(Xg (Xf fs F) (Xi fs n)).length)
theorem Xmr {fs:List FN} {F n:Nat} {l:Int} (h:l≤Xp (Xi fs n).kind):Xf fs (F+1) (n:Int) l=Xg (Xf fs F) (Xi fs n):=by
 rw[Xf,Int.toNat_natCast,if_neg (by omega)]
theorem Xu1 {fs:List FN} {F n:Nat} {l:Int} (h:Xp (Xi fs n).kind<l):Xf fs (F+1) (n:Int) l= [40]++Xg (Xf fs F) (Xi fs n)++ [41]:=by
 rw[Xf,Int.toNat_natCast,if_pos h]
theorem Gl {fs:List FN} {L:List UInt8} {n f G:Nat} {least l:Int} {p q:Nat} (hw:Xs WPr (Ys WPr L f) L (fs.take (Zj fs n)) p=some ((n:Int),fs.take (n+1),skF L q)) (hl:l≤7) (hG:L.length<p+G) (hpq:p≤q):Xa2 fs L n f G least l p q:=by
 have:=Xw L q
 exact ⟨G,7,by omega,hl,by rw[hw];rfl⟩
theorem Xov {L:List UInt8} {f:Nat} {l:Int} {fs:List FN} {p:Nat}:Ys WPr L (f+1) l fs p=Xy (Xs WPr (Ys WPr L f) L fs p) (fun n fs q=>Zx (Ys WPr L f) L WPr (L.length+1) l 7 n fs q):=rfl
theorem Xhq {fs:List FN} {L:List UInt8} {n f:Nat} {l:Int} {p q:Nat} (hq:q≤L.length) (h:Xa2 fs L n f (L.length+1) l l p q) (hs:Gy L l q):Ys WPr L (f+1) l (fs.take (Zj fs n)) p=some ((n:Int),fs.take (n+1),skF L q):=by
 obtain ⟨G',bnd,h1,h2,h3⟩:=h
 rw[Xov,h3]
 have:=X1 hq
 obtain ⟨g,rfl⟩:∃g,G'=g+1:=⟨G'-1,by omega⟩
 exact Xpn hs
theorem Xls {fs:List FN} {L:List UInt8} {n F f p:Nat} (hf:L.length<p+(f+1)) (h:Sit L p ([40]++Xg (Xf fs F) (Xi fs n)++ [41]))
  (hfirst:∀q,Sit L q (Xg (Xf fs F) (Xi fs n))→skF L q=q) (hV:Xou fs L n) (hn:n<F+1):
  Xs WPr (Ys WPr L f) L (fs.take (Zj fs n)) p=some ((n:Int),fs.take (n+1),skF L (p+([40]++Xg (Xf fs F) (Xi fs n)++ [41]).length)):=by
 obtain ⟨B,hB⟩:∃B,Xg (Xf fs F) (Xi fs n)=B:=⟨_,rfl⟩
 unfold Xou at hV
 have hv:=hV F 1 (p+1) (f-1) (L.length+1) 1 hn (by decide) (by decide) (Xrr _).1 (by decide)
 rw[hB] at h hfirst hv⊢
 obtain ⟨l0,b0,s1⟩:=Xx (show Sit L p (40::(B++ [41])) from h)
 have sB:=s1.left
 have s2:=s1.right
 obtain ⟨l2,b2,_⟩:=Xx s2
 have hb2:Xh L (p+1+B.length)=41:=b2
 have hlen:=sB.len
 have hq:skF L (p+1+B.length)=p+1+B.length:=Zv (by omega) (by omega)
 have hw:=hv sB (by omega) (by omega) (Kq b2 (by decide)) (Wt hb2 (by omega))
 have hr:=Xhq (by omega) hw (Wt hb2 (by omega))
 rw[Xv6 l0 b0,hfirst _ sB]
 unfold Zl
 rw[show f=f-1+1 by omega,hr,X2]
 unfold Yj
 rw[hq,if_pos (Xl.2 ⟨l2,hb2⟩)]
 have e1:([40]++B++ [41]:List UInt8).length=B.length+2:=by simp
 rw[e1,show p+(B.length+2)=p+1+B.length+1 by omega]
theorem Xms {fs:List FN} {L:List UInt8} {n:Nat} (hW:Xot fs L n):Xos fs L n:=by
 intro F l p f hF h1 h6 hs hf hfol hstop
 have hlen:=hs.len
 have h:=hW F l p (f-1) (L.length+1) l hF h1 h6 (Int.le_refl _) hs (by omega) (by omega) hfol (fun hl=>Xw2 hstop (Int.le_trans hl (Xw3 _)))
 have:=Xhq hlen h hstop
 rw[show f-1+1=f by omega] at this
 exact this
theorem Xxy {fs:List FN} (hok:okF fs=true) {L:List UInt8} {n:Nat} (hn:n<fs.length) (hV:Xou fs L n):Xot fs L n:=by
 intro F l p f G least hF h1 h6 hle hs hf hG hfol hstop
 match F,hF with
 | F + 1, hF =>
  by_cases hl:l≤Xp (Xi fs n).kind
  ·rw[Xmr hl] at hs hfol hstop⊢
   exact hV F l p f G least hF h1 h6 hl hle hs hf hG hfol (hstop hl)
  ·rw[Xu1 (by omega)] at hs hfol⊢
   refine Gl (Xls hf hs (fun q hq=> ?_) hV hF) (by omega) hG (by omega)
   have hb:Xf fs (F+1) (n:Int) 1=Xg (Xf fs F) (Xi fs n):=Xmr (Xrr _).1
   have:=V3 hok (n+1) n (by omega) hn (F+1) 1 q hF (by rw[hb];exact hq)
   exact Zv this.2.1 this.2.2.1
end Go.Proofs.YtehihemfepbmfaaGreatDoor
