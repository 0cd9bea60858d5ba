import Derived.Test.YtehihemfepbmfaaGreatDoorFtA
import Derived.Test.YtehihemfepbmfaaGreatDoorFtD
namespace Go.Proofs.YtehihemfepbmfaaGreatDoor
open Go.RowKit
set_option linter.unusedSimpArgs false
set_option linter.unusedVariables false
set_option linter.unusedSectionVars false
def Zy (l:Int) (L:List UInt8) (q:Nat):Option (Int×Nat):=(X0 L q).bind fun x=>if Xp x.1=l then some x else none
theorem Ud (L:List UInt8) (q:Nat):
  (Xe L q 124=true∧X0 L q=some (6,1))∨(Xe L q 44=true∧X0 L q=some (7,1))∨(Xe L q 47=true∧Xe L (q+1) 47=true∧X0 L q=some (21,2))∨
  (Xe L q 61=true∧Xe L (q+1) 61=true∧X0 L q=some (17,2))∨(Xe L q 33=true∧Xe L (q+1) 61=true∧X0 L q=some (18,2))∨
  (Xe L q 60=true∧Xe L (q+1) 61=true∧X0 L q=some (20,2))∨(Xe L q 60=true∧Xe L (q+1) 61=false∧X0 L q=some (19,1))∨
  (Xe L q 43=true∧X0 L q=some (15,1))∨(Xe L q 45=true∧X0 L q=some (16,1))∨(Xe L q 63=true∧X0 L q=some (23,1))∨
  (X0 L q=none∧Xe L q 124=false∧Xe L q 44=false∧¬(Xe L q 47=true∧Xe L (q+1) 47=true)∧¬(Xe L q 61=true∧Xe L (q+1) 61=true)∧¬(Xe L q 33=true∧Xe L (q+1) 61=true)∧Xe L q 60=false∧Xe L q 43=false∧Xe L q 45=false∧Xe L q 63=false):=by
 unfold X0
 by_cases h1:Xe L q 124=true
 ·left;exact ⟨h1,by rw[if_pos h1]⟩
 by_cases h2:Xe L q 44=true
 ·right;left;exact ⟨h2,by rw[if_neg h1,if_pos h2]⟩
 by_cases h3:Xe L q 47=true∧Xe L (q+1) 47=true
 ·right;right;left;exact ⟨h3.1,h3.2,by rw[if_neg h1,if_neg h2,if_pos h3]⟩
 by_cases h4:Xe L q 61=true∧Xe L (q+1) 61=true
 ·right;right;right;left;exact ⟨h4.1,h4.2,by rw[if_neg h1,if_neg h2,if_neg h3,if_pos h4]⟩
 by_cases h5:Xe L q 33=true∧Xe L (q+1) 61=true
 ·right;right;right;right;left;exact ⟨h5.1,h5.2,by rw[if_neg h1,if_neg h2,if_neg h3,if_neg h4,if_pos h5]⟩
 by_cases h6:Xe L q 60=true∧Xe L (q+1) 61=true
 ·right;right;right;right;right;left;exact ⟨h6.1,h6.2,by rw[if_neg h1,if_neg h2,if_neg h3,if_neg h4,if_neg h5,if_pos h6]⟩
 by_cases h7:Xe L q 60=true
 ·right;right;right;right;right;right;left
  exact ⟨h7,by rw[←Bool.not_eq_true];exact fun e=>h6 ⟨h7,e⟩,by rw[if_neg h1,if_neg h2,if_neg h3,if_neg h4,if_neg h5,if_neg h6,if_pos h7]⟩
 by_cases h8:Xe L q 43=true
 ·right;right;right;right;right;right;right;left;exact ⟨h8,by rw[if_neg h1,if_neg h2,if_neg h3,if_neg h4,if_neg h5,if_neg h6,if_neg h7,if_pos h8]⟩
 by_cases h9:Xe L q 45=true
 ·right;right;right;right;right;right;right;right;left;exact ⟨h9,by rw[if_neg h1,if_neg h2,if_neg h3,if_neg h4,if_neg h5,if_neg h6,if_neg h7,if_neg h8,if_pos h9]⟩
 by_cases h10:Xe L q 63=true
 ·right;right;right;right;right;right;right;right;right;left;exact ⟨h10,by rw[if_neg h1,if_neg h2,if_neg h3,if_neg h4,if_neg h5,if_neg h6,if_neg h7,if_neg h8,if_neg h9,if_pos h10]⟩
 right;right;right;right;right;right;right;right;right;right
 refine ⟨by rw[if_neg h1,if_neg h2,if_neg h3,if_neg h4,if_neg h5,if_neg h6,if_neg h7,if_neg h8,if_neg h9,if_neg h10], ?_, ?_,h3,h4,h5, ?_, ?_, ?_, ?_⟩<;>rw[←Bool.not_eq_true]<;>assumption
theorem Qq {L:List UInt8} {q a b:Nat} (h:Xe L q a=true) (hab:a≠b):Xe L q b=false:=by
 rw[X7];rintro ⟨_,e⟩;exact hab ((Xl.1 h).2.symm.trans e)
section
variable {L:List UInt8} {q:Nat}
theorem Xyn:Zy 1 L q=if Xe L q 124=true then some (6,1) else none:=by
 unfold Zy
 rcases Ud L q with ⟨h,e⟩|⟨h,e⟩|⟨h,_,e⟩|⟨h,_,e⟩|⟨h,_,e⟩|⟨h,_,e⟩|⟨h,_,e⟩|⟨h,e⟩|⟨h,e⟩|⟨h,e⟩|⟨e,h1,_⟩
 ·rw[e,if_pos h];rfl
 all_goals first
  |(rw[e,if_neg (by rw[Qq h (by decide)];decide)];rfl)
  |(rw[e,if_neg (by rw[h1];decide)];rfl)
theorem Xyo:Zy 2 L q=if Xe L q 44=true then some (7,1) else none:=by
 unfold Zy
 rcases Ud L q with ⟨h,e⟩|⟨h,e⟩|⟨h,_,e⟩|⟨h,_,e⟩|⟨h,_,e⟩|⟨h,_,e⟩|⟨h,_,e⟩|⟨h,e⟩|⟨h,e⟩|⟨h,e⟩|⟨e,_,h1,_⟩
 rotate_left
 ·rw[e,if_pos h];rfl
 all_goals first
  |(rw[e,if_neg (by rw[Qq h (by decide)];decide)];rfl)
  |(rw[e,if_neg (by rw[h1];decide)];rfl)
theorem X1d:Zy 3 L q=if Xe L q 47=true∧Xe L (q+1) 47=true then some (21,2) else none:=by
 unfold Zy
 rcases Ud L q with ⟨h,e⟩|⟨h,e⟩|⟨h,h',e⟩|⟨h,_,e⟩|⟨h,_,e⟩|⟨h,_,e⟩|⟨h,_,e⟩|⟨h,e⟩|⟨h,e⟩|⟨h,e⟩|⟨e,_,_,h1,_⟩
 rotate_left 2
 ·rw[e,if_pos ⟨h,h'⟩];rfl
 all_goals first
  |(rw[e,if_neg (fun hh=>by rw[Qq h (by decide)] at hh;exact absurd hh.1 (by decide))];rfl)
  |(rw[e,if_neg h1];rfl)
theorem Xiy:Zy 4 L q=if Xe L q 61=true∧Xe L (q+1) 61=true then some (17,2) else if Xe L q 33=true∧Xe L (q+1) 61=true then some (18,2) else if Xe L q 60=true∧Xe L (q+1) 61=true then some (20,2) else if Xe L q 60=true then some (19,1) else none:=by
 unfold Zy
 rcases Ud L q with ⟨h,e⟩|⟨h,e⟩|⟨h,_,e⟩|⟨h,h',e⟩|⟨h,h',e⟩|⟨h,h',e⟩|⟨h,h',e⟩|⟨h,e⟩|⟨h,e⟩|⟨h,e⟩|⟨e,_,_,_,h1,h2,h3,_⟩
 rotate_left 3
 ·rw[e,if_pos ⟨h,h'⟩];rfl
 ·rw[e,if_neg (fun hh=>by rw[Qq h (by decide)] at hh;exact absurd hh.1 (by decide)),if_pos ⟨h,h'⟩];rfl
 ·rw[e,if_neg (fun hh=>by rw[Qq h (by decide)] at hh;exact absurd hh.1 (by decide)),if_neg (fun hh=>by rw[Qq h (by decide)] at hh;exact absurd hh.1 (by decide)),if_pos ⟨h,h'⟩];rfl
 ·rw[e,if_neg (fun hh=>by rw[Qq h (by decide)] at hh;exact absurd hh.1 (by decide)),if_neg (fun hh=>by rw[Qq h (by decide)] at hh;exact absurd hh.1 (by decide)),if_neg (fun hh=>by rw[h'] at hh;exact absurd hh.2 (by decide)),if_pos h];rfl
 all_goals first
  |(rw[e,if_neg h1,if_neg h2,if_neg (fun hh=>by rw[h3] at hh;exact absurd hh.1 (by decide)),if_neg (by rw[h3];decide)];rfl)
  |(rw[e,if_neg (fun hh=>by rw[Qq h (by decide)] at hh;exact absurd hh.1 (by decide)),if_neg (fun hh=>by rw[Qq h (by decide)] at hh;exact absurd hh.1 (by decide)),if_neg (fun hh=>by rw[Qq h (by decide)] at hh;exact absurd hh.1 (by decide)),if_neg (by rw[Qq h (by decide)];decide)];rfl)
theorem Xta:Zy 5 L q=if Xe L q 43=true then some (15,1) else if Xe L q 45=true then some (16,1) else none:=by
 unfold Zy
 rcases Ud L q with ⟨h,e⟩|⟨h,e⟩|⟨h,_,e⟩|⟨h,_,e⟩|⟨h,_,e⟩|⟨h,_,e⟩|⟨h,_,e⟩|⟨h,e⟩|⟨h,e⟩|⟨h,e⟩|⟨e,_,_,_,_,_,_,h1,h2,_⟩
 rotate_left 7
 ·rw[e,if_pos h];rfl
 ·rw[e,if_neg (by rw[Qq h (by decide)];decide),if_pos h];rfl
 all_goals first
  |(rw[e,if_neg (by rw[Qq h (by decide)];decide),if_neg (by rw[Qq h (by decide)];decide)];rfl)
  |(rw[e,if_neg (by rw[h1];decide),if_neg (by rw[h2];decide)];rfl)
theorem X1e:Zy 6 L q=if Xe L q 63=true then some (23,1) else none:=by
 unfold Zy
 rcases Ud L q with ⟨h,e⟩|⟨h,e⟩|⟨h,_,e⟩|⟨h,_,e⟩|⟨h,_,e⟩|⟨h,_,e⟩|⟨h,_,e⟩|⟨h,e⟩|⟨h,e⟩|⟨h,e⟩|⟨e,_,_,_,_,_,_,_,_,h1⟩
 rotate_left 9
 ·rw[e,if_pos h];rfl
 all_goals first
  |(rw[e,if_neg (by rw[Qq h (by decide)];decide)];rfl)
  |(rw[e,if_neg (by rw[h1];decide)];rfl)
end
theorem Xl5 {S:RD} {L:List UInt8} {W:WP} {l g:Nat} {n:Int} {fs:List FN} {p:Nat}:J2 S L W l (g+1) n fs p=match Zy (l:Int) L p with
  |none=>some (n,fs,p)
  |some (k,len)=>Xy (Jr S L W k len n fs p) fun n fs q=>if l=6∨l=5∨l=2 then J2 S L W l g n fs q else some (n,fs,q):=by
 rw[J2]
 unfold Zy
 cases h:X0 L p with
 |none=>rfl
 | some x =>
  obtain ⟨k,len⟩:=x
  simp only[Option.bind_some]
  by_cases e:Xp k=(l:Int)
  ·rw[if_pos e,if_pos e]
  ·rw[if_neg e,if_neg e]

theorem Xmc {x:FN} (h:Xn x=true) (hk:kidsN x.kind=0):x.kids= []:=by
 have h8:x.kind≠8:=fun e=>by rw[e] at hk;cases hk
 have h9:x.kind≠9:=fun e=>by rw[e] at hk;cases hk
 have:=Xat h h8 h9
 rw[hk] at this
 exact List.eq_nil_of_length_eq_zero (by omega)
theorem Xxg {L:List UInt8} {q:Nat} (h:Vq L q):Yu L q=false:=by
 unfold Yu
 have:=h.1
 unfold nmC at this
 rw[Bool.or_eq_false_iff] at this
 rw[this.1,Bool.and_false]
theorem Xbw {L:List UInt8} {q c:Nat} (h:Xh L q≠c):Xe L q c=false:=by rw[X7];exact fun e=>h e.2
theorem Vc {W:WP} {Rd:RD} {L:List UInt8} {fs:List FN} {p:Nat} {c:UInt8} {r:List UInt8} (h:Sit L p (c::r)) (hc:Yt c.toNat=true) (hw:∀d∈c::r,nmC d.toNat=true) (hf:nmC (Xh L (p+(c::r).length))=false):Xs W Rd L fs p=X4 W Rd L (c::r) fs (skF L (p+(c::r).length)):=by
 obtain ⟨l0,b0,_⟩:=Xx h
 obtain ⟨w1,w2⟩:=Xam h (by simp) hw hf
 rw[Xpj l0 b0 hc,w1,w2]
section
variable {fs:List FN} (hok:okF fs=true) {L:List UInt8} {n:Nat} (hn:n<fs.length) {Rd:RD}
include hok hn
theorem Xn2 {R:Int→Int→List UInt8} {p:Nat} (hk:kidsN (Xi fs n).kind=0) (h:Sit L p (Xg R (Xi fs n))) (hfol:Vq L (p+(Xg R (Xi fs n)).length)):
  Xs WPr Rd L (fs.take n) p=some ((n:Int),fs.take (n+1),skF L (p+(Xg R (Xi fs n)).length)):=by
 obtain ⟨o1,o2,o3,o4⟩:=Kd hok
 have hb:=o2 n hn
 obtain ⟨x,hx⟩:∃x,Xi fs n=x:=⟨_,rfl⟩
 rw[hx] at hb h hfol hk⊢
 have hkids:=Xmc hb hk
 obtain ⟨z1,z2,z3,z4,z5,z6,z7,z8,z9,z10,z11⟩:=Ws hb
 have add:∀{y:FN} {q:Nat},x=y→Xu WPr y (fs.take n) q=some ((n:Int),fs.take (n+1),q):=fun e=>Xeb hn (hx.trans e)
 have K:x.kind≠2→x.kind≠3→x.kind≠5→x.kind≠9→x=Qw x.kind:=fun a b c d=>X1g hb a b c d hkids
 rcases Xch z10 z11 with k|k|k|k|k|k|k|k|k|k|k|k|k|k|k
 ·rw[Xvn k] at h hfol⊢
  obtain ⟨l0,b0,_⟩:=Xx h
  have hf:Vq L (p+1):=hfol
  rw[Xdr l0 b0]
  unfold Ym
  rw[if_neg (by rw[Xxg hf];decide),if_neg (by rw[Xbw hf.2];decide)]
  exact add (by have:=K (by omega) (by omega) (by omega) (by omega);rw[k] at this;exact this)
 ·rw[Xvo k] at h hfol⊢
  obtain ⟨l0,b0,s1⟩:=Xx h
  obtain ⟨n1,n2,n3⟩:=Xec (z5 k)
  have e1:p+(46::x.name.data.toList).length=p+1+x.name.data.toList.length:=by simp;omega
  rw[e1] at hfol⊢
  obtain ⟨w1,w2⟩:=Xam s1 n1 n2 hfol.1
  have hl:Yu L (p+1)=true:=by
   match hd:x.name.data.toList,n1 with
   | c :: r, _ =>
    rw[hd] at s1
    obtain ⟨l1,b1,_⟩:=Xx s1
    rw[U3 l1 b1];exact n3 c r hd
  rw[Xdr l0 b0]
  unfold Ym
  rw[if_pos hl,w1,w2,Ql]
  exact add (by rw[Xbt x,k,z2 (by omega),z3 (by omega),z4 (by omega),hkids])
 ·rw[Xvp k] at h hfol⊢
  obtain ⟨l0,b0,s1⟩:=Xx (show Sit L p (46::(91::(Lib.itoa x.place++ [93]))) from (by simpa using h))
  obtain ⟨l1,b1,s2⟩:=Xx s1
  have s3:=s2.right
  obtain ⟨l3,b3,_⟩:=Xx s3
  have c3:Xh L (p+1+1+(Lib.itoa x.place).length)=93:=b3
  have c1:Xh L (p+1)=91:=b1
  obtain ⟨f1,f2⟩:=Xb5 s2.left
  have f3:Xh L (p+1+1)≠32∧Xh L (p+1+1)≠10∧Xh L (p+1+1)≠93:=by
   rcases f2 with f2|f2
   ·omega
   ·unfold Zn at f2;simp at f2;omega
  have hp80:=z6 k
  rw[Xdr l0 b0]
  unfold Ym Qo
  rw[if_neg (by rw[U3 l1 b1];decide),if_pos (by rw[Yd l1 c1];decide),Zv f3.1 f3.2.1,if_neg (by rw[Xbw f3.2.2];decide),
   Xpm s2.left (by omega) (by omega) (by rw[c3];decide),Zv (by omega) (by omega)]
  unfold Yj
  rw[if_pos (Xl.2 ⟨l3,c3⟩),show p+([46,91]++Lib.itoa x.place++ [93]:List UInt8).length=p+1+1+(Lib.itoa x.place).length+1 by simp;omega]
  exact add (by rw[Xbt x,k,z1 (by omega),z3 (by omega),z4 (by omega),hkids])
 ·rw[Xvq k] at h hfol⊢
  obtain ⟨l0,b0,s1⟩:=Xx h
  obtain ⟨l1,b1,s2⟩:=Xx s1
  obtain ⟨l2,b2,_⟩:=Xx s2
  have c1:Xh L (p+1)=91:=b1
  have c2:Xh L (p+1+1)=93:=b2
  rw[Xdr l0 b0]
  unfold Ym Qo
  rw[if_neg (by rw[U3 l1 b1];decide),if_pos (by rw[Yd l1 c1];decide),Zv (by omega) (by omega),if_pos (Xl.2 ⟨l2,c2⟩)]
  exact add (by have:=K (by omega) (by omega) (by omega) (by omega);rw[k] at this;exact this)
 ·have hx5:∀c,x.cst= [c]→x=Zt c:=fun c e=>by rw[Xbt x,k,z1 (by omega),z2 (by omega),z4 (by omega),hkids,e];rfl
  rw[Xvr k] at h hfol⊢
  rcases Xjh (z7 k) with e|e|e|⟨v,e,v1,v2⟩|⟨t,e,ht⟩
  ·have e2:J1 x.cst= [110,117,108,108]:=by rw[e];exact (Zz false 0 0).1 rfl
   rw[e2] at h hfol⊢
   rw[Vc h (by decide) (by decide) hfol.1]
   exact add (hx5 _ e)
  ·have e2:J1 x.cst= [102,97,108,115,101]:=by rw[e];exact (Zz false 0 0).2.1 rfl
   rw[e2] at h hfol⊢
   rw[Vc h (by decide) (by decide) hfol.1]
   exact add (hx5 _ e)
  ·have e2:J1 x.cst= [116,114,117,101]:=by rw[e];exact (Zz false 0 0).2.1 rfl
   rw[e2] at h hfol⊢
   rw[Vc h (by decide) (by decide) hfol.1]
   exact add (hx5 _ e)
  ·have e2:J1 x.cst=Lib.itoa v:=by rw[e];exact (Zz false 0 0).2.2.1 rfl
   rw[e2] at h hfol⊢
   obtain ⟨q1,q2⟩:=Xb5 h
   rw[Xpk q1 rfl (by rcases q2 with q2|q2;exact .inl q2;exact .inr (by rw[←Xpl];exact q2)),Xpm h v1 v2 hfol.1]
   exact add (hx5 _ e)
  ·have e2:J1 x.cst=Gp t:=by rw[e];exact (Zz false 0 0).2.2.2.1 rfl
   rw[e2] at h hfol⊢
   obtain ⟨q1,q2⟩:=Xs9 ht h
   obtain ⟨q3,q4⟩:=Xl.1 q1
   rw[Xv7 (W:=WPr) q3 q4 q2,Ql]
   exact add (hx5 _ e)
 ·rw[k] at hk;cases hk
 ·rw[k] at hk;cases hk
 ·rw[k] at hk;cases hk
 ·rw[Xrj k] at h hfol⊢
  rw[Vc h (by decide) (by decide) hfol.1]
  exact add (by have:=K (by omega) (by omega) (by omega) (by omega);rw[k] at this;exact this)
 ·rw[Xrk k] at h hfol⊢
  rw[Vc h (by decide) (by decide) hfol.1]
  exact add (by have:=K (by omega) (by omega) (by omega) (by omega);rw[k] at this;exact this)
 ·rw[Xrl k] at h hfol⊢
  rw[Vc h (by decide) (by decide) hfol.1]
  exact add (by have:=K (by omega) (by omega) (by omega) (by omega);rw[k] at this;exact this)
 ·rw[Xrm k] at h hfol⊢
  rw[Vc h (by decide) (by decide) hfol.1]
  exact add (by have:=K (by omega) (by omega) (by omega) (by omega);rw[k] at this;exact this)
 ·rw[k] at hk;cases hk
 ·rw[k] at hk;cases hk
 ·exfalso;rcases k with k|k|k|k|k|k|k|k|k<;>(rw[k] at hk;cases hk)
end

theorem Xia {L:List UInt8} {q c:Nat} {k:Nat→RF} (h:Xe L q c=true):Yj L q c k=k (skF L (q+1)):=by unfold Yj;rw[if_pos h]
theorem Xiw {L:List UInt8} {w:List UInt8} {q:Nat} {k:Nat→RF} (h:X9 L q=w):Jn L w q k=k (skF L (nmJ L q)):=by unfold Jn;rw[if_pos h]
theorem Xef {R:Int→Int→List UInt8} {names:List ByteArray} {kids:List Int} {L:List UInt8} {p:Nat}:∀d k j,k=j+d→Sit L p (Yf R names kids k)→Sit L p (Yf R names kids j):=by
 intro d
 induction d with
 |zero=>intro k j hk h;rw[hk] at h;exact h
 | succ d ih =>
  intro k j hk h
  rw[show k=(j+d)+1 by omega,Yf] at h
  exact ih (j+d) j rfl h.left.left.left.left
theorem Xc4 {T:Nat→Option (Nat×Nat)}:∀(ks:List Int) (a b:Nat),Vj T a ks b→∀j (hj:j<ks.length),∃m p,ks[j]=((m:Nat):Int)∧T m=some p∧(j=0→p.1=a)∧(∀i,j=i+1→∃(m':Nat),ks[i]? =some (m':Int)∧p.1=m'+1)∧(j+1=ks.length→m+1=b):=by
 intro ks
 induction ks with
 |nil=>intro a b h j hj;simp at hj
 | cons k ks ih =>
  intro a b h j hj
  obtain ⟨m,p,rfl,h1,h2,h3⟩:=h
  match j with
  | 0 =>
   refine ⟨m,p,rfl,h1,fun _=>h2,fun i hi=>by omega,fun e=> ?_⟩
   have:ks= []:=by simpa using e
   subst this
   exact h3
  | j + 1 =>
   obtain ⟨m',p',e1,e2,e3,e4,e5⟩:=ih _ _ h3 j (by simpa using hj)
   refine ⟨m',p',by simpa using e1,e2,fun e=>by omega,fun i hi=> ?_,fun e=>e5 (by simpa using e)⟩
   obtain rfl:i=j:=by omega
   match i with
   |0=>exact ⟨m,rfl,e3 rfl⟩
   |i+1=>obtain ⟨q,q1,q2⟩:=e4 i rfl;exact ⟨q,by simpa using q1,q2⟩
section
variable {fs:List FN} (hok:okF fs=true) {L:List UInt8} {n:Nat} (hn:n<fs.length) (ih:∀m,m<n→Xos fs L m) {F p f:Nat} (hF:n<F+1) (hf:L.length<p+(f+1))
include hok hn ih hF hf
theorem U4 {m q:Nat} {l:Int} (hm:m<n) (hq:p<q) (h1:1≤l) (h6:l≤6) (h:Sit L q (Xf fs F (m:Int) l)) (hfol:Vq L (q+(Xf fs F (m:Int) l).length)) (hs:Gy L l (q+(Xf fs F (m:Int) l).length)):
  Ys WPr L f l (fs.take (Zj fs m)) q=some ((m:Int),fs.take (m+1),skF L (q+(Xf fs F (m:Int) l).length))∧skF L q=q∧Xh L q≠93:=by
 have h2:=V3 hok (m+1) m (by omega) (by omega) F l q (by omega) h
 exact ⟨ih m hm F l q f (by omega) h1 h6 h (by omega) hfol hs,Zv h2.2.1 h2.2.2.1,h2.2.2.2⟩
theorem Xm2 (k:(Xi fs n).kind=8) (h:Sit L p (Xg (Xf fs F) (Xi fs n))):
  Xs WPr (Ys WPr L f) L (fs.take (Zj fs n)) p=some ((n:Int),fs.take (n+1),skF L (p+(Xg (Xf fs F) (Xi fs n)).length)):=by
 obtain ⟨o1,o2,o3,o4⟩:=Kd hok
 have hb:=o2 n hn
 have hch:=Kj (o3 n hn)
 have HX:=Xeb (q:=skF L (p+(Xg (Xf fs F) (Xi fs n)).length)) hn rfl
 obtain ⟨x,hx⟩:∃x,Xi fs n=x:=⟨_,rfl⟩
 rw[hx] at hb h hch k HX⊢
 have hR:=Xjg hb (by omega) (by omega) (by omega) (by omega)
 rw[k] at hR
 have hfit:=(Ws hb).2.2.2.2.2.2.2.2.1
 unfold Jk at hfit
 rw[if_pos k] at hfit
 have hl1:x.kids.length≤1:=by simpa using hfit
 rw[Xvs k] at h HX⊢
 rcases (show x.kids.length=0∨x.kids.length=1 by omega) with hl|hl
 ·rw[if_pos hl] at h HX⊢
  have hke:x.kids= []:=List.eq_nil_of_length_eq_zero hl
  rw[hke] at hch hR
  have hfst:Zj fs n=n:=hch
  obtain ⟨l0,b0,s1⟩:=Xx (show Sit L p (91:: [93]) from h)
  obtain ⟨l1,b1,_⟩:=Xx s1
  have c1:Xh L (p+1)=93:=b1
  rw[Xly l0 b0,Zv (by omega) (by omega),hfst]
  unfold Jo
  rw[if_pos (Xl.2 ⟨l1,c1⟩)]
  rw[hR] at HX
  exact HX
 ·rw[if_neg (by omega)] at h HX⊢
  obtain ⟨m,pp,hkk,t1,t2,t3⟩:=Xn7 hch hl
  rw[hkk] at h HX⊢
  rw[hkk] at hR
  have hfst:Zj fs m=Zj fs n:=by rw[Q3 t1,t2]
  rw[show Xk [((m:Nat):Int)] 0=((m:Nat):Int) from rfl] at h HX⊢
  obtain ⟨T,hT⟩:∃T,Xf fs F (m:Int) 1=T:=⟨_,rfl⟩
  have hkid:=U4 hok hn ih hF hf (m:=m) (q:=p+1) (l:=1) (by omega) (by omega) (by decide) (by decide)
  rw[hT] at h HX hkid⊢
  obtain ⟨l0,b0,s1⟩:=Xx (show Sit L p (91::(T++ [93])) from h)
  obtain ⟨l2,b2,_⟩:=Xx s1.right
  have c2:Xh L (p+1+T.length)=93:=b2
  obtain ⟨k1,k2,k3⟩:=hkid s1.left (Kq b2 (by decide)) (Wt c2 (by omega))
  rw[Xly l0 b0,k2]
  unfold Jo
  rw[if_neg (by rw[Xbw k3];decide),←hfst,k1,X2,Zv (by omega) (by omega)]
  unfold Yj
  rw[if_pos (Xl.2 ⟨l2,c2⟩),t3]
  rw[hR,show p+([91]++T++ [93]:List UInt8).length=p+1+T.length+1 by simp;omega] at HX
  rw[show p+([91]++T++ [93]:List UInt8).length=p+1+T.length+1 by simp;omega]
  exact HX
theorem Xpw (k:(Xi fs n).kind=10) (h:Sit L p (Xg (Xf fs F) (Xi fs n))):
  Xs WPr (Ys WPr L f) L (fs.take (Zj fs n)) p=some ((n:Int),fs.take (n+1),skF L (p+(Xg (Xf fs F) (Xi fs n)).length)):=by
 obtain ⟨o1,o2,o3,o4⟩:=Kd hok
 have hb:=o2 n hn
 have hch:=Kj (o3 n hn)
 have HX:=Xeb (q:=skF L (p+(Xg (Xf fs F) (Xi fs n)).length)) hn rfl
 obtain ⟨x,hx⟩:∃x,Xi fs n=x:=⟨_,rfl⟩
 rw[hx] at hb h hch k HX⊢
 have hR:=Xjg hb (by omega) (by omega) (by omega) (by omega)
 rw[k] at hR
 have hl : x.kids.length = 1 := by have := Xat hb (by omega) (by omega); rw [k] at this; have e : kidsN 10 = 1 := by decide
                                   omega
 obtain ⟨m,pp,hkk,t1,t2,t3⟩:=Xn7 hch hl
 have hfst:Zj fs m=Zj fs n:=by rw[Q3 t1,t2]
 rw[Xri k,hkk] at h HX⊢
 rw[hkk] at hR
 rw[show Xk [((m:Nat):Int)] 0=((m:Nat):Int) from rfl] at h HX⊢
 obtain ⟨T,hT⟩:∃T,Xf fs F (m:Int) 1=T:=⟨_,rfl⟩
 have hkid:=U4 hok hn ih hF hf (m:=m) (q:=p+7) (l:=1) (by omega) (by omega) (by decide) (by decide)
 rw[hT] at h HX hkid⊢
 have s0:Sit L p ([115,101,108,101,99,116]++(40::(T++ [41]))):=by simpa using h
 have s6:Sit L (p+6) (40::(T++ [41])):=s0.right
 obtain ⟨l6,b6,s7⟩:=Xx s6
 have c6:Xh L (p+6)=40:=b6
 obtain ⟨l2,b2,_⟩:=Xx s7.right
 have c2:Xh L (p+7+T.length)=41:=b2
 obtain ⟨k1,k2,k3⟩:=hkid s7.left (Kq b2 (by decide)) (Wt c2 (by omega))
 have hw:=Vc (W:=WPr) (Rd:=Ys WPr L f) (fs:=fs.take (Zj fs n)) s0.left (by decide) (by decide) (by show nmC (Xh L (p+6))=false;rw[c6];decide)
 rw[show p+([115,101,108,101,99,116]:List UInt8).length=p+6 from rfl,Zv (by omega) (by omega)] at hw
 have hn1:X4 WPr (Ys WPr L f) L [115,101,108,101,99,116] (fs.take (Zj fs n)) (p+6)=Vy WPr (Ys WPr L f) L (fs.take (Zj fs n)) (p+6):=rfl
 rw[hw,hn1]
 unfold Vy
 rw[Xia (Xl.2 ⟨l6,c6⟩)]
 unfold Zl
 rw[show skF L (p+6+1)=p+7 from k2,←hfst,k1,X2,Zv (by omega) (by omega)]
 rw[Xia (Xl.2 ⟨l2,c2⟩),X2,t3]
 rw[hR,show p+([115,101,108,101,99,116,40]++T++ [41]:List UInt8).length=p+7+T.length+1 by simp;omega] at HX
 rw[show p+([115,101,108,101,99,116,40]++T++ [41]:List UInt8).length=p+7+T.length+1 by simp;omega]
 exact HX
theorem Xs1 (k:(Xi fs n).kind=22) (h:Sit L p (Xg (Xf fs F) (Xi fs n))) (hfol:Vq L (p+(Xg (Xf fs F) (Xi fs n)).length)):
  Xs WPr (Ys WPr L f) L (fs.take (Zj fs n)) p=some ((n:Int),fs.take (n+1),skF L (p+(Xg (Xf fs F) (Xi fs n)).length)):=by
 obtain ⟨o1,o2,o3,o4⟩:=Kd hok
 have hb:=o2 n hn
 have hch:=Kj (o3 n hn)
 have HX:=Xeb (q:=skF L (p+(Xg (Xf fs F) (Xi fs n)).length)) hn rfl
 obtain ⟨x,hx⟩:∃x,Xi fs n=x:=⟨_,rfl⟩
 rw[hx] at hb h hch k HX hfol⊢
 have hR:=Xjg hb (by omega) (by omega) (by omega) (by omega)
 rw[k] at hR
 have hl : x.kids.length = 3 := by have := Xat hb (by omega) (by omega); rw [k] at this; have e : kidsN 22 = 3 := by decide
                                   omega
 obtain ⟨m,pp,m',pp',m'',pp'',hkk,t1,t2,t3,t4,t5,t6,t7⟩:=X01 hch hl
 have hm':m<m':=by have:=Xrq t3;rw[Q3 t3] at this;omega
 have hm'':m'<m'':=by have:=Xrq t5;rw[Q3 t5] at this;omega
 have hfst:Zj fs m=Zj fs n:=by rw[Q3 t1,t2]
 have hfst':Zj fs m'=m+1:=by rw[Q3 t3,t4]
 have hfst'':Zj fs m''=m'+1:=by rw[Q3 t5,t6]
 rw[Xrn k,hkk] at h HX hfol⊢
 rw[hkk] at hR
 rw[show Xk [((m:Nat):Int),((m':Nat):Int),((m'':Nat):Int)] 0=((m:Nat):Int) from rfl,show Xk [((m:Nat):Int),((m':Nat):Int),((m'':Nat):Int)] 1=((m':Nat):Int) from rfl,show Xk [((m:Nat):Int),((m':Nat):Int),((m'':Nat):Int)] 2=((m'':Nat):Int) from rfl] at h HX hfol⊢
 obtain ⟨A,hA⟩:∃T,Xf fs F (m:Int) 1=T:=⟨_,rfl⟩
 obtain ⟨B,hB⟩:∃T,Xf fs F (m':Int) 1=T:=⟨_,rfl⟩
 obtain ⟨C,hC⟩:∃T,Xf fs F (m'':Int) 1=T:=⟨_,rfl⟩
 have kid1:=U4 hok hn ih hF hf (m:=m) (q:=p+3) (l:=1) (by omega) (by omega) (by decide) (by decide)
 rw[hA] at h HX kid1 hfol⊢
 have kid2:=U4 hok hn ih hF hf (m:=m') (q:=p+3+A.length+6) (l:=1) (by omega) (by omega) (by decide) (by decide)
 rw[hB] at h HX kid2 hfol⊢
 have kid3:=U4 hok hn ih hF hf (m:=m'') (q:=p+3+A.length+6+B.length+6) (l:=1) (by omega) (by omega) (by decide) (by decide)
 rw[hC] at h HX kid3 hfol⊢
 have hlen:([105,102,32]++A++ [32,116,104,101,110,32]++B++ [32,101,108,115,101,32]++C++ [32,101,110,100]:List UInt8).length=3+A.length+6+B.length+6+C.length+4:=by simp;omega
 rw[hlen] at HX hfol⊢
 have s0:Sit L p ([105,102]++(32::(A++(32::([116,104,101,110]++(32::(B++(32::([101,108,115,101]++(32::(C++(32:: [101,110,100])))))))))))):=by simpa using h
 obtain ⟨u2,v2,s3⟩:=Xx s0.right
 have s3':Sit L (p+3) (A++(32::([116,104,101,110]++(32::(B++(32::([101,108,115,101]++(32::(C++(32:: [101,110,100])))))))))):=s3
 obtain ⟨u4,v4,s5⟩:=Xx s3'.right
 obtain ⟨u6,v6,s7⟩:=Xx s5.right
 have s7':Sit L (p+3+A.length+6) (B++(32::([101,108,115,101]++(32::(C++(32:: [101,110,100])))))):=s7
 obtain ⟨u8,v8,s9⟩:=Xx s7'.right
 obtain ⟨u10,v10,s11⟩:=Xx s9.right
 have s11':Sit L (p+3+A.length+6+B.length+6) (C++(32:: [101,110,100])):=s11
 obtain ⟨u12,v12,s13⟩:=Xx s11'.right
 have g2:Xh L (p+2)=32:=v2
 have g4:Xh L (p+3+A.length)=32:=v4
 have g6:Xh L (p+3+A.length+1+4)=32:=v6
 have g8:Xh L (p+3+A.length+6+B.length)=32:=v8
 have g10:Xh L (p+3+A.length+6+B.length+1+4)=32:=v10
 have g12:Xh L (p+3+A.length+6+B.length+6+C.length)=32:=v12
 have t0:Xh L (p+3+A.length+1)=116:=(Xx s5.left).2.1
 have e0:Xh L (p+3+A.length+6+B.length+1)=101:=(Xx s9.left).2.1
 have d0:Xh L (p+3+A.length+6+B.length+6+C.length+1)=101:=(Xx s13).2.1
 have q1:skF L (p+3+A.length)=p+3+A.length+1:=J6 u4 g4 (by omega) (by omega)
 have q2:skF L (p+3+A.length+6+B.length)=p+3+A.length+6+B.length+1:=J6 u8 g8 (by omega) (by omega)
 have q3:skF L (p+3+A.length+6+B.length+6+C.length)=p+3+A.length+6+B.length+6+C.length+1:=J6 u12 g12 (by omega) (by omega)
 have noS:∀{q c:Nat},skF L q=q+1→Xh L (q+1)=c→Yt c=true→Gy L 1 q:=fun e1 e2 e3 k len e=>by rw[e1,Xv8 e2 e3] at e;cases e
 obtain ⟨k1,k2,_⟩:=kid1 s3'.left (Kq v4 (by decide)) (noS q1 t0 (by decide))
 obtain ⟨k3,k4,_⟩:=kid2 s7'.left (Kq v8 (by decide)) (noS q2 e0 (by decide))
 obtain ⟨k5,k6,_⟩:=kid3 s11'.left (Kq v12 (by decide)) (noS q3 d0 (by decide))
 have f1:=V3 hok (m+1) m (by omega) (by omega) F 1 (p+3) (by omega) (by rw[hA];exact s3'.left)
 have f2:=V3 hok (m'+1) m' (by omega) (by omega) F 1 (p+3+A.length+6) (by omega) (by rw[hB];exact s7'.left)
 have f3:=V3 hok (m''+1) m'' (by omega) (by omega) F 1 (p+3+A.length+6+B.length+6) (by omega) (by rw[hC];exact s11'.left)
 have r2:skF L (p+2)=p+3:=J6 u2 g2 f1.2.1 f1.2.2.1
 have r6:skF L (p+3+A.length+1+4)=p+3+A.length+6:=J6 u6 g6 f2.2.1 f2.2.2.1
 have r10:skF L (p+3+A.length+6+B.length+1+4)=p+3+A.length+6+B.length+6:=J6 u10 g10 f3.2.1 f3.2.2.1
 have hw:=Vc (W:=WPr) (Rd:=Ys WPr L f) (fs:=fs.take (Zj fs n)) s0.left (by decide) (by decide) (by show nmC (Xh L (p+2))=false;rw[g2];decide)
 rw[show p+([105,102]:List UInt8).length=p+2 from rfl,r2] at hw
 have hn1:X4 WPr (Ys WPr L f) L [105,102] (fs.take (Zj fs n)) (p+3)=ifF WPr (Ys WPr L f) L (fs.take (Zj fs n)) (p+3):=rfl
 obtain ⟨w1,x1⟩:=Xam s5.left (by simp) (by decide) (by show nmC (Xh L (p+3+A.length+1+4))=false;rw[g6];decide)
 obtain ⟨w2,x2⟩:=Xam s9.left (by simp) (by decide) (by show nmC (Xh L (p+3+A.length+6+B.length+1+4))=false;rw[g10];decide)
 obtain ⟨w3,x3⟩:=Xam s13 (by simp) (by decide) (by
  have:=hfol.1
  rw[show p+(3+A.length+6+B.length+6+C.length+4)=p+3+A.length+6+B.length+6+C.length+1+3 by omega] at this
  exact this)
 rw[hw,hn1]
 unfold ifF
 rw[←hfst,k1,X2,q1,Xiw w1,x1,show p+3+A.length+1+([116,104,101,110]:List UInt8).length=p+3+A.length+1+4 from rfl,r6,←hfst',k3,X2,q2,Xiw w2,x2,
  show p+3+A.length+6+B.length+1+([101,108,115,101]:List UInt8).length=p+3+A.length+6+B.length+1+4 from rfl,r10,←hfst'',k5,X2,q3,Xiw w3,x3,t7]
 rw[hR,show p+(3+A.length+6+B.length+6+C.length+4)=p+3+A.length+6+B.length+6+C.length+1+3 by omega] at HX
 rw[show p+(3+A.length+6+B.length+6+C.length+4)=p+3+A.length+6+B.length+6+C.length+1+3 by omega]
 exact HX
end

theorem Xb2 {l:List ByteArray} (h:Z2 l=true) {j:Nat} (hj:j<l.length):Ya (Xt l j)=true:=by
 unfold Z2 at h
 rw[Bool.and_eq_true,Xhk,Bool.and_eq_true,List.all_eq_true] at h
 exact h.2.1 j (List.mem_range.2 hj)
theorem Xsm {l:List ByteArray} {j:Nat} (hj:j<l.length):l.take j++ [Xt l j]=l.take (j+1):=by
 rw[List.take_add_one,List.getElem?_eq_getElem hj]
 have:Xt l j=l[j]:=by unfold Xt;rw[List.getD_eq_getElem?_getD,List.getElem?_eq_getElem hj];rfl
 rw[this];rfl
theorem Xsn {l:List Int} {j:Nat} (hj:j<l.length):l.take j++ [l[j]]=l.take (j+1):=by
 rw[List.take_add_one,List.getElem?_eq_getElem hj];rfl
theorem Xe4 {s:ByteArray} (h:Ya s=true) {L:List UInt8} {q:Nat} (hs:Sit L q s.data.toList):Yu L q=true∧Xh L q≠32∧Xh L q≠10∧Xh L q≠125:=by
 obtain ⟨n1,n2,n3⟩:=Xec h
 match hd:s.data.toList,n1 with
 | c :: r, _ =>
  rw[hd] at hs
  obtain ⟨l1,b1,_⟩:=Xx hs
  have hc:=n3 c r hd
  refine ⟨by rw[U3 l1 b1];exact hc, ?_, ?_, ?_⟩<;>(intro e;rw[b1] at e;rw[e] at hc;revert hc;decide)
section
variable {fs:List FN} (hok:okF fs=true) {L:List UInt8} {n:Nat} (hn:n<fs.length) (ih:∀m,m<n→Xos fs L m) {F p f:Nat} (hF:n<F+1) (hf:L.length<p+(f+1))
include hok hn ih hF hf
theorem Xpf {names:List ByteArray} {kids:List Int} (hch:Vj (tr (Yx fs)) (Zj fs n) kids n) (hnm:Z2 names=true) (hlen:kids.length=names.length)
  (hrow:Sit L (p+1) (Yf (Xf fs F) names kids kids.length)) (hend:Xh L (p+1+(Yf (Xf fs F) names kids kids.length).length)=125) (hend2:p+1+(Yf (Xf fs F) names kids kids.length).length<L.length):
  ∀d j g,j+d=kids.length→0<d→L.length<p+1+(Yf (Xf fs F) names kids j).length+(K6 j).length+g→
   Zm WPr (Ys WPr L f) L g (names.take j) (kids.take j) (fs.take (Zj fs (Xk kids j).toNat)) (p+1+(Yf (Xf fs F) names kids j).length+(K6 j).length)=Xu WPr (Vv names kids) (fs.take n) (skF L (p+1+(Yf (Xf fs F) names kids kids.length).length+1)):=by
 intro d
 induction d with
 |zero=>intro j g _ h;omega
 | succ d ihd =>
  intro j g hj _ hg
  have hjk:j<kids.length:=by omega
  obtain ⟨m,pp,e1,t1,t2,t3,t4⟩:=Xc4 _ _ _ hch j hjk
  have hmn : m < n := by
   have:((m:Nat):Int)∈kids:=by rw[←e1];exact List.getElem_mem hjk
   have hall:∀(ks:List Int) (a:Nat),Vj (tr (Yx fs)) a ks n→∀k∈ks,k<(n:Int):=by
    intro ks
    induction ks with
    |nil=>intro a _ k hk;cases hk
    | cons k0 ks ih2 =>
     intro a h k hk
     obtain ⟨m0,p0,rfl,u1,u2,u3⟩:=h
     have hle:∀(ks:List Int) (a:Nat),Vj (tr (Yx fs)) a ks n→a≤n:=by
      intro ks
      induction ks with
      |nil=>intro a h;exact Nat.le_of_eq h
      | cons k1 ks ih3 =>
       intro a h
       obtain ⟨m1,p1,rfl,v1,v2,v3⟩:=h
       have:=ih3 _ v3
       have:=Gw v1
       omega
     rcases List.mem_cons.1 hk with rfl|hk
     ·have:=hle _ _ u3;omega
     ·exact ih2 _ u3 k hk
   have:=hall _ _ hch _ this
   omega
  have hia:Xk kids j=((m:Nat):Int):=by rw[Qj hjk];exact e1
  have hname:=Xb2 hnm (j:=j) (by omega)
  have sj:=Xef (kids.length-(j+1)) kids.length (j+1) (by omega) hrow
  rw[Yf,hia] at sj
  obtain ⟨A,hA⟩:∃A,Yf (Xf fs F) names kids j=A:=⟨_,rfl⟩
  obtain ⟨S,hS⟩:∃S,K6 j=S:=⟨_,rfl⟩
  obtain ⟨K,hK⟩:∃K,(Xt names j).data.toList=K:=⟨_,rfl⟩
  obtain ⟨T,hT⟩:∃T,Xf fs F (m:Int) 3=T:=⟨_,rfl⟩
  have hrl:(Yf (Xf fs F) names kids (j+1)).length=A.length+S.length+K.length+2+T.length:=by
   rw[Yf,hia,hA,hS,hK,hT];simp;omega
  rw[hia,Int.toNat_natCast]
  rw[hA,hS,hK,hT] at sj
  rw[hA,hS] at hg⊢
  obtain ⟨P,hP⟩:∃P,p+1+A.length+S.length=P:=⟨_,rfl⟩
  rw[hP] at hg⊢
  have s1:Sit L (p+1) (A++(S++(K++(58::(32::T))))):=by simpa using sj
  have s2:Sit L P (K++(58::(32::T))):=by rw[←hP];exact s1.right.right
  obtain ⟨u1,v1,s3⟩:=Xx s2.right
  obtain ⟨u2,v2,s4⟩:=Xx s3
  have w1:Xh L (P+K.length)=58:=v1
  have w2:Xh L (P+K.length+1)=32:=v2
  obtain ⟨n1,n2,n3⟩:=Xec hname
  rw[hK] at n1 n2
  obtain ⟨x1,x2⟩:=Xam s2.left n1 n2 (by rw[w1];decide)
  have hPL:P<L.length:=by omega
  obtain ⟨g,rfl⟩:∃g',g=g'+1:=⟨g-1,by omega⟩
  have f4:=V3 hok (m+1) m (by omega) (by omega) F 3 (P+K.length+1+1) (by omega) (by rw[hT];exact s4)
  have hkid:=U4 hok hn ih hF hf (m:=m) (q:=P+K.length+1+1) (l:=3) hmn (by omega) (by decide) (by decide)
  rw[hT] at hkid
  obtain ⟨E,hE⟩:∃E,P+K.length+1+1+T.length=E:=⟨_,rfl⟩
  rw[hE] at hkid
  have hEr:E=p+1+(Yf (Xf fs F) names kids (j+1)).length:=by rw[hrl];omega
  have hkey:txt ((L.drop P).take (WPr.nam L P-P))=Xt names j:=by
   have:(L.drop P).take (nmJ L P-P)=K:=x1
   rw[show WPr.nam L P=nmJ L P from rfl,this,←hK,Ql]
  rw[Zm,hkey,Xsm (show j<names.length by omega),show WPr.nam L P=nmJ L P from rfl,x2,Zv (by omega) (by omega),Xia (Xl.2 ⟨u1,w1⟩),J6 u2 w2 f4.2.1 f4.2.2.1]
  have hkt:kids.take j++ [((m:Nat):Int)]=kids.take (j+1):=by rw[←e1];exact Xsn hjk
  by_cases hlast:j+1=kids.length
  ·have hE2:E=p+1+(Yf (Xf fs F) names kids kids.length).length:=by rw[←hlast];exact hEr
   have c3:Xh L E=125:=by rw[hE2];exact hend
   obtain ⟨k1,k2,_⟩:=hkid s4 (by unfold Vq;rw[c3];decide) (Wt c3 (by omega))
   rw[k1,X2,Zv (by omega) (by omega),if_pos (Xl.2 ⟨by omega,c3⟩),hkt,hlast,List.take_length,t4 hlast,←hE2,hlen,List.take_length]
  ·have sj2:=Xef (kids.length-(j+2)) kids.length (j+2) (by omega) hrow
   rw[Yf] at sj2
   have s5:Sit L E (K6 (j+1)++(Xt names (j+1)).data.toList):=by
    rw[hEr]
    have h5:Sit L (p+1) (Yf (Xf fs F) names kids (j+1)++((K6 (j+1)++(Xt names (j+1)).data.toList)++([58,32]++Xf fs F (Xk kids (j+1)) 3))):=by simpa using sj2
    exact h5.right.left
   have hsep:K6 (j+1)= [44,32]:=rfl
   rw[hsep] at s5
   obtain ⟨u6,v6,s6⟩:=Xx (show Sit L E (44::(32::(Xt names (j+1)).data.toList)) from s5)
   obtain ⟨u7,v7,s7⟩:=Xx s6
   have w6:Xh L E=44:=v6
   have w7:Xh L (E+1)=32:=v7
   obtain ⟨f5,f6,f7,_⟩:=Xe4 (Xb2 hnm (j:=j+1) (by omega)) s7
   have hskE:skF L E=E:=Zv (by omega) (by omega)
   have hjE:X0 L (skF L E)=some (7,1):=by rw[hskE];unfold X0;rw[Yd u6 w6,Yd u6 w6];rfl
   obtain ⟨k1,k2,_⟩:=hkid s4 (by unfold Vq;rw[w6];decide) (Xep hjE (by decide))
   obtain ⟨m',pp',e1',t1',t2',t3',t4'⟩:=Xc4 _ _ _ hch (j+1) (by omega)
   obtain ⟨m0,e0,e0'⟩:=t3' j rfl
   have hm0:m0=m:=by rw[List.getElem?_eq_getElem hjk,e1] at e0;simp at e0;omega
   have hst:Zj fs (Xk kids (j+1)).toNat=m+1:=by rw[Qj (show j+1<kids.length by omega),e1',Int.toNat_natCast,Q3 t1',e0',hm0]
   rw[k1,X2,hskE,if_neg (by rw[Xbw (by omega)];decide),Xia (Xl.2 ⟨u6,w6⟩),J6 u7 w7 f6 f7,hkt]
   have:=ihd (j+1) g (by omega) (by omega) (by rw[hrl,hsep];show L.length<_+2+g;omega)
   rw[hst,hsep,←hEr] at this
   exact this
theorem Xpg (k:(Xi fs n).kind=9) (h:Sit L p (Xg (Xf fs F) (Xi fs n))):
  Xs WPr (Ys WPr L f) L (fs.take (Zj fs n)) p=some ((n:Int),fs.take (n+1),skF L (p+(Xg (Xf fs F) (Xi fs n)).length)):=by
 obtain ⟨o1,o2,o3,o4⟩:=Kd hok
 have hb:=o2 n hn
 have hch:=Kj (o3 n hn)
 have HX:=Xeb (q:=skF L (p+(Xg (Xf fs F) (Xi fs n)).length)) hn rfl
 obtain ⟨x,hx⟩:∃x,Xi fs n=x:=⟨_,rfl⟩
 rw[hx] at hb h hch k HX⊢
 obtain ⟨z1,z2,z3,z4,z5,z6,z7,z8,z9,z10,z11⟩:=Ws hb
 have hM:x=Vv x.names x.kids:=by
  conv=>lhs;rw[Xbt x,k,z1 (by omega),z2 (by omega),z3 (by omega)]
  rfl
 have hlen:x.kids.length=x.names.length:=by unfold Jk at z9;rw[if_neg (by omega),if_pos k] at z9;simpa using z9
 rw[Xvt k] at h HX⊢
 obtain ⟨l0,b0,s1⟩:=Xx (show Sit L p (123::(Yf (Xf fs F) x.names x.kids x.kids.length++ [125])) from h)
 obtain ⟨l2,b2,_⟩:=Xx s1.right
 have c2:Xh L (p+1+(Yf (Xf fs F) x.names x.kids x.kids.length).length)=125:=b2
 have hlen2:([123]++Yf (Xf fs F) x.names x.kids x.kids.length++ [125]:List UInt8).length=(Yf (Xf fs F) x.names x.kids x.kids.length).length+2:=by simp
 rw[hlen2,show p+((Yf (Xf fs F) x.names x.kids x.kids.length).length+2)=p+1+(Yf (Xf fs F) x.names x.kids x.kids.length).length+1 by omega] at HX⊢
 rw[Xsp l0 b0]
 unfold Jf
 by_cases hk0:x.kids.length=0
 ·have hke:x.kids= []:=List.eq_nil_of_length_eq_zero hk0
  have hne:x.names= []:=List.eq_nil_of_length_eq_zero (by omega)
  have hr0:Yf (Xf fs F) x.names x.kids x.kids.length= []:=by rw[hk0];rfl
  rw[hr0] at c2 l2 HX⊢
  have c3:Xh L (p+1)=125:=c2
  have l3:p+1<L.length:=l2
  rw[hke] at hch
  have hfst:Zj fs n=n:=hch
  rw[Zv (by omega) (by omega),if_pos (Xl.2 ⟨l3,c3⟩),hfst]
  rw[hM,hke,hne] at HX
  exact HX
 ·have hname:=Xb2 (z8 k) (j:=0) (by omega)
  have s3:=Xef (x.kids.length-1) x.kids.length 1 (by omega) s1.left
  have s4:Sit L (p+1) (Xt x.names 0).data.toList:=by
   have h4:Sit L (p+1) ((Xt x.names 0).data.toList++([58,32]++Xf fs F (Xk x.kids 0) 3)):=by
    have:Yf (Xf fs F) x.names x.kids 1=(Xt x.names 0).data.toList++([58,32]++Xf fs F (Xk x.kids 0) 3):=by
     rw[Yf,Yf];simp[K6]
    rw[←this];exact s3
   exact h4.left
  obtain ⟨f5,f6,f7,f8⟩:=Xe4 hname s4
  obtain ⟨m,pp,e1,t1,t2,t3,t4⟩:=Xc4 _ _ _ hch 0 (by omega)
  have hst:Zj fs (Xk x.kids 0).toNat=Zj fs n:=by rw[Qj (by omega),e1,Int.toNat_natCast,Q3 t1,t2 rfl]
  have hr:=Xpf hok hn ih hF hf hch (z8 k) hlen s1.left c2 l2 x.kids.length 0 (L.length+1) (by omega) (by omega) (by omega)
  rw[hst] at hr
  have e0:p+1+(Yf (Xf fs F) x.names x.kids 0).length+(K6 0).length=p+1:=rfl
  rw[e0] at hr
  rw[Zv f6 f7,if_neg (by rw[Xbw f8];decide)]
  have:Zm WPr (Ys WPr L f) L (L.length+1) [] [] (fs.take (Zj fs n)) (p+1)=_:=hr
  rw[this,←hM]
  exact HX
end

theorem Xmb (k:Int):(Xp k=1∧G8 k=1)∨(Xp k=2∧G8 k=3)∨(Xp k=3∧G8 k=3)∨(Xp k=4∧G8 k=5)∨(Xp k=5∧G8 k=6)∨(Xp k=6∧G8 k=7)∨(Xp k=7∧G8 k=7):=by
 by_cases e:k=6
 ·subst e;decide
 by_cases e:k=7
 ·subst e;decide
 by_cases e:k=21
 ·subst e;decide
 by_cases e:k=17
 ·subst e;decide
 by_cases e:k=18
 ·subst e;decide
 by_cases e:k=19
 ·subst e;decide
 by_cases e:k=20
 ·subst e;decide
 by_cases e:k=15
 ·subst e;decide
 by_cases e:k=16
 ·subst e;decide
 by_cases e:k=23
 ·subst e;decide
 right;right;right;right;right;right
 unfold Xp G8
 simp[*]
theorem Xxb {k ka:Int} (hk:Xbi k) (h:Ji k≤Xp ka):Xp k<G8 ka:=by
 have h1:=Xmb ka
 have h2:(Xp k=1∧Ji k=2)∨(Xp k=2∧Ji k=2)∨(Xp k=3∧Ji k=4)∨(Xp k=4∧Ji k=5)∨(Xp k=5∧Ji k=5):=by
  rcases hk with rfl|rfl|rfl|rfl|rfl|rfl|rfl|rfl|rfl<;>decide
 omega
theorem Xt4 {k:Int} (hk:Xbi k):1≤Ji k∧Ji k≤6∧1≤Qh k∧Qh k≤6∧Xp k≤Ji k∧Qh k=G8 k∧k≠23∧Xei k=Ji k∧kidsN k=2∧k≠2∧k≠3∧k≠5∧k≠8∧k≠9:=by
 rcases hk with rfl|rfl|rfl|rfl|rfl|rfl|rfl|rfl|rfl<;>decide
section
variable {fs:List FN} (hok:okF fs=true) {L:List UInt8} {n:Nat} (hn:n<fs.length) (ihB:∀m,m<n→Xos fs L m) (ihW:∀m,m<n→Xot fs L m)
include hok hn ihB ihW
theorem Xxc {F p f G:Nat} {least l:Int} (k:(Xi fs n).kind=23) (hF:n<F+1) (h1:1≤l) (h6:l≤6) (hle:least≤l) (h:Sit L p (Xg (Xf fs F) (Xi fs n))) (hf:L.length<p+(f+1)) (hG:L.length<p+G):
  Xa2 fs L n f G least l p (p+(Xg (Xf fs F) (Xi fs n)).length):=by
 obtain ⟨o1,o2,o3,o4⟩:=Kd hok
 have hb:=o2 n hn
 have hch:=Kj (o3 n hn)
 have HX:=Xeb (q:=skF L (p+(Xg (Xf fs F) (Xi fs n)).length)) hn rfl
 unfold Xa2
 obtain ⟨x,hx⟩:∃x,Xi fs n=x:=⟨_,rfl⟩
 rw[hx] at hb h hch k HX⊢
 have hR:=Xjg hb (by omega) (by omega) (by omega) (by omega)
 rw[k] at hR
 have hl : x.kids.length = 1 := by have := Xat hb (by omega) (by omega); rw [k] at this; have e : kidsN 23 = 1 := by decide
                                   omega
 obtain ⟨m,pp,hkk,t1,t2,t3⟩:=Xn7 hch hl
 have hfst:Zj fs m=Zj fs n:=by rw[Q3 t1,t2]
 rw[Xro k,hkk] at h HX⊢
 rw[hkk] at hR
 rw[show Xk [((m:Nat):Int)] 0=((m:Nat):Int) from rfl] at h HX⊢
 have hw:=ihW m (by omega) F 6 p f G least (by omega) (by decide) (by decide) (by omega) h.left hf hG
 unfold Xa2 at hw
 obtain ⟨T,hT⟩:∃T,Xf fs F (m:Int) 6=T:=⟨_,rfl⟩
 rw[hT] at h HX hw⊢
 obtain ⟨l2,b2,_⟩:=Xx h.right
 have c2:Xh L (p+T.length)=63:=b2
 have hsk:skF L (p+T.length)=p+T.length:=Zv (by omega) (by omega)
 have hj:X0 L (p+T.length)=some (23,1):=by unfold X0;simp only[Yd l2 c2];rfl
 obtain ⟨G',bnd,g1,g2,g3⟩:=hw (Kq b2 (by decide)) (fun hl=>Xep (by rw[hsk];exact hj) (by have:=Xmb (Xi fs m).kind;have e:Xp 23=6:=(by decide);omega))
 rw[hsk] at g1 g3
 obtain ⟨g,rfl⟩:∃g,G'=g+1:=⟨G'-1,by omega⟩
 have hlv:Xp 23=6:=by decide
 rw[Xgt hj (by rw[hlv];omega) (by show (6:Int)≤bnd;exact g2)] at g3
 have hend:(T++ [63]:List UInt8).length=T.length+1:=by simp
 rw[hend] at HX⊢
 have hge:=Xw L (p+T.length+1)
 refine ⟨g,6, ?_,h6, ?_⟩
 ·rw[show p+(T.length+1)=p+T.length+1 by omega];omega
 ·rw[←hfst,g3]
  unfold Jr
  rw[if_pos rfl,t3]
  rw[hR,show p+(T.length+1)=p+T.length+1 by omega] at HX
  rw[HX,X2,hlv,show p+(T.length+1)=p+T.length+1 by omega]
theorem Xxd {F p f G:Nat} {least l:Int} (k:Xbi (Xi fs n).kind) (hF:n<F+1) (h1:1≤l) (hll:l≤Xp (Xi fs n).kind) (hle:least≤l) (h:Sit L p (Xg (Xf fs F) (Xi fs n))) (hf:L.length<p+(f+1)) (hG:L.length<p+G)
  (hfol:Vq L (p+(Xg (Xf fs F) (Xi fs n)).length)) (hstop:Gy L (G8 (Xi fs n).kind) (p+(Xg (Xf fs F) (Xi fs n)).length)):
  Xa2 fs L n f G least l p (p+(Xg (Xf fs F) (Xi fs n)).length):=by
 obtain ⟨o1,o2,o3,o4⟩:=Kd hok
 have hb:=o2 n hn
 have hch:=Kj (o3 n hn)
 have HX:=Xeb (q:=skF L (p+(Xg (Xf fs F) (Xi fs n)).length)) hn rfl
 unfold Xa2
 obtain ⟨x,hx⟩:∃x,Xi fs n=x:=⟨_,rfl⟩
 rw[hx] at hb h hch k HX hll hfol hstop⊢
 obtain ⟨y1,y2,y3,y4,y5,y6,y7,y8,y9,n2,n3,n5,n8,n9⟩:=Xt4 k
 have hR:=Xjg hb n2 n3 n5 n9
 have hl:x.kids.length=2:=by have:=Xat hb n8 n9;rw[y9] at this;omega
 obtain ⟨m,pp,m',pp',hkk,t1,t2,t3,t4,t5⟩:=X00 hch hl
 have hm':m<m':=by have:=Gw t3;omega
 have hfst:Zj fs m=Zj fs n:=by rw[Q3 t1,t2]
 have hfst':Zj fs m'=m+1:=by rw[Q3 t3,t4]
 rw[Xrp k,hkk] at h HX hfol hstop⊢
 rw[hkk] at hR
 rw[show Xk [((m:Nat):Int),((m':Nat):Int)] 0=((m:Nat):Int) from rfl,show Xk [((m:Nat):Int),((m':Nat):Int)] 1=((m':Nat):Int) from rfl] at h HX hfol hstop⊢
 have hw:=ihW m (by omega) F (Ji x.kind) p f G least (by omega) y1 y2 (by omega) h.left.left hf hG
 unfold Xa2 at hw
 obtain ⟨A,hA⟩:∃T,Xf fs F (m:Int) (Ji x.kind)=T:=⟨_,rfl⟩
 obtain ⟨S,hS⟩:∃T,Yl x.kind=T:=⟨_,rfl⟩
 rw[hA] at h HX hw hfol hstop⊢
 have hread:=ihB m' (by omega) F (Qh x.kind) (p+A.length+S.length) f (by omega) y3 y4
 have f4:=V3 hok (L:=L) (m'+1) m' (by omega) (by omega) F (Qh x.kind) (p+A.length+S.length) (by omega)
 have hss:=fun (hh:Sit L (p+A.length) (Yl x.kind))=>Xv9 k hh
 rw[hS] at h HX hfol hstop hss⊢
 obtain ⟨B,hB⟩:∃T,Xf fs F (m':Int) (Qh x.kind)=T:=⟨_,rfl⟩
 rw[hB] at h HX hread f4 hfol hstop⊢
 have s0:Sit L p (A++(S++B)):=by rw[←List.append_assoc];exact h
 have sS:=s0.right.left
 have sB:=s0.right.right
 obtain ⟨u1,u2,u3,_⟩:=f4 sB
 obtain ⟨len,j1,j2,j3,j4,j5,j6⟩:=hss sS u2 u3
 obtain ⟨G',bnd,g1,g2,g3⟩:=hw j6 (fun hl=>Xep j1 (Xxb k hl))
 obtain ⟨g,rfl⟩:∃g,G'=g+1:=⟨G'-1,by omega⟩
 rw[Xgt j1 (by omega) (by rw[y8];exact g2)] at g3
 have hend:(A++S++B:List UInt8).length=A.length+S.length+B.length:=by simp;omega
 rw[hend,show p+(A.length+S.length+B.length)=p+A.length+S.length+B.length by omega] at HX hfol hstop⊢
 have hr:=hread sB (by omega) hfol (by rw[y6];exact hstop)
 rw[hfst'] at hr
 have hge:=Xw L (p+A.length+S.length+B.length)
 refine ⟨g,Xp x.kind,by omega,hll, ?_⟩
 rw[←hfst,g3]
 unfold Jr
 rw[if_neg y7,j2,hr,X2,t5]
 have hXX:Xu WPr (Yw x.kind [((m:Nat):Int),((m':Nat):Int)]) (fs.take n) (skF L (p+A.length+S.length+B.length))=some ((n:Int),fs.take (n+1),skF L (p+A.length+S.length+B.length)):=by rw[←hR];exact HX
 rw[hXX,X2]
theorem Xt5:Xou fs L n:=by
 intro F l p f G least hF h1 h6 hll hle hs hf hG hfol hstop
 obtain ⟨o1,o2,o3,o4⟩:=Kd hok
 have hb:=o2 n hn
 obtain ⟨z1,z2,z3,z4,z5,z6,z7,z8,z9,z10,z11⟩:=Ws hb
 have leaf:kidsN (Xi fs n).kind=0→Xa2 fs L n f G least l p (p+(Xg (Xf fs F) (Xi fs n)).length):=fun hk=>by
  have hch:=Kj (o3 n hn)
  rw[Xmc hb hk] at hch
  have hfst:Zj fs n=n:=hch
  have hw:=Xn2 hok hn (Rd:=Ys WPr L f) hk hs hfol
  refine Gl (by rw[hfst];exact hw) (by omega) hG (by omega)
 rcases Xch z10 z11 with k|k|k|k|k|k|k|k|k|k|k|k|k|k|k
 ·exact leaf (by rw[k];rfl)
 ·exact leaf (by rw[k];rfl)
 ·exact leaf (by rw[k];rfl)
 ·exact leaf (by rw[k];rfl)
 ·exact leaf (by rw[k];rfl)
 ·exact Gl (Xm2 hok hn ihB hF hf k hs) (by omega) hG (by omega)
 ·exact Gl (Xpg hok hn ihB hF hf k hs) (by omega) hG (by omega)
 ·exact Gl (Xpw hok hn ihB hF hf k hs) (by omega) hG (by omega)
 ·exact leaf (by rw[k];rfl)
 ·exact leaf (by rw[k];rfl)
 ·exact leaf (by rw[k];rfl)
 ·exact leaf (by rw[k];rfl)
 ·exact Gl (Xs1 hok hn ihB hF hf k hs hfol) (by omega) hG (by omega)
 ·exact Xxc hok hn ihB ihW k hF h1 h6 hle hs hf hG
 ·exact Xxd hok hn ihB ihW k hF h1 hll hle hs hf hG hfol hstop
end
theorem Xxe {fs:List FN} (hok:okF fs=true) {L:List UInt8}:∀N n,n<N→n<fs.length→Xot fs L n:=by
 intro N
 induction N with
 |zero=>intro n h;omega
 | succ N ih =>
  intro n hN hn
  exact Xxy hok hn (Xt5 hok hn (fun m hm=>Xms (ih m (by omega) (by omega))) (fun m hm=>ih m (by omega) (by omega)))
theorem Xld {fs:List FN} (hok:okF fs=true) {f:Nat} (hf:(Yz fs).length<f):Xc6 (Ys WPr (Yz fs) f) (Yz fs)=some fs:=by
 obtain ⟨o1,o2,o3,o4⟩:=Kd hok
 obtain ⟨L,hL⟩:∃L,Yz fs=L:=⟨_,rfl⟩
 have hT:Xf fs fs.length (((fs.length-1:Nat):Nat):Int) 1=L:=by
  rw[←hL];unfold Yz;rw[if_pos hok,show ((fs.length:Int)-1)=((fs.length-1:Nat):Int) by omega]
 rw[hL] at hf⊢
 have hs:Sit L 0 (Xf fs fs.length ((fs.length-1:Nat):Int) 1):=by rw[hT];exact Xem L
 have hB:=Xms (Xxe hok (L:=L) fs.length (fs.length-1) (by omega) (by omega))
 have h1:=V3 hok fs.length (fs.length-1) (by omega) (by omega) fs.length 1 0 (by omega) hs
 have hsk:skF L 0=0:=Zv h1.2.1 h1.2.2.1
 have hpast:skF L L.length=L.length:=Xbc (Nat.le_refl _)
 have hr:=hB fs.length 1 0 f (by omega) (by decide) (by decide) hs (by omega)
 rw[hT,Nat.zero_add] at hr
 have hrr:=hr (Xw1 (Nat.le_refl _)) (Xtw (by rw[hpast];exact Nat.le_refl _))
 rw[o4,hpast,show fs.length-1+1=fs.length by omega,List.take_length,List.take_zero] at hrr
 unfold Xc6
 rw[hsk,hrr]
 show (if L.length=L.length∧okF fs=true then some fs else none)=some fs
 rw[if_pos ⟨rfl,hok⟩]
end Go.Proofs.YtehihemfepbmfaaGreatDoor
