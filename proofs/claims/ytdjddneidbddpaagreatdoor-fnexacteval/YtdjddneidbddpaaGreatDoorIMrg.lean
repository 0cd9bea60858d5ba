import Derived.Test.YtdjddneidbddpaaGreatDoorSSort
import Derived.Test.YtdjddneidbddpaaGreatDoorIParts
import Derived.Test.YtdjddneidbddpaaGreatDoorEAs
import Derived.Test.YtdjddneidbddpaaGreatDoorEqSS
import Derived.Deep.QuietTactic
import Derived.BigQuiet
namespace Go.Proofs.YtdjddneidbddpaaGreatDoor
set_option linter.unusedSectionVars false
set_option maxRecDepth 100000
set_option maxHeartbeats 3200000
open Go.RowKit
set_option linter.unusedSimpArgs false
set_option linter.unusedVariables false
structure Errs (w:World):Prop where
 et:ErrT w
 kind:∃a0:Addr,w.cell? ⟨3,0,none⟩=some (.iface 257 (.pointer (some a0)))/\∃cs t,w.heap[a0.block]? =some (.cells cs t (0,0))
theorem X7 {w:World} {b o:Nat} {v:Value} (h:w.cell? ⟨b,o,none⟩=some v):b<w.heap.size:=by
 rcases Nat.lt_or_ge b w.heap.size with h1|h1
 ·exact h1
 ·simp[World.cell?,Array.getElem?_eq_none h1] at h
theorem Zn {w:World} {b:Nat} {o:Obj} (h:w.heap[b]? =some o):b<w.heap.size:=by
 rcases Nat.lt_or_ge b w.heap.size with h'|h'
 ·exact h'
 ·simp[Array.getElem?_eq_none h'] at h
theorem Errs.below {w w':World} (h:Errs w) (hb:Below w.heap.size w w'):Errs w':=by
 obtain ⟨d,b,f,t,c⟩:=h.kind
 exact ⟨h.et.below hb h.et.lt,⟨d,(Xc hb (X7 b)).trans b,f,t,(hb.block _ (Zn c)).trans c⟩⟩
def Rsn (w:World) (c:Int) (te:TypeId) (xe:Value):Prop:=∃a a0:Addr,te=257/\xe= .pointer (some a)/\w.cell? ⟨3,0,none⟩=some (.iface 257 (.pointer (some a0)))/\(c=2↔a=a0)/\(∃cs t,w.heap[a.block]? =some (.cells cs t (0,0)))/\∃cs t,w.heap[a0.block]? =some (.cells cs t (0,0))
theorem Rsn.below {w w':World} {c:Int} {te:TypeId} {xe:Value} (h:Rsn w c te xe) (hb:Below w.heap.size w w'):Rsn w' c te xe:=by
 obtain ⟨a,j,l,o,d,p,⟨q,t,f⟩,b,s,g⟩:=h
 exact ⟨a,j,l,o,(Xc hb (X7 d)).trans d,p,⟨q,t,(hb.block _ (Zn f)).trans f⟩,b,s,(hb.block _ (Zn g)).trans g⟩
def J6 (w:World) (c:Int) (v:Value):Prop:=∃te xe,v= .iface 105 (.agg #[.int .i64 c, .iface te xe])/\Rsn w c te xe
theorem Zx (w:World) (h:Errs w):Calls Tryz.prog 140 #[] w fun e w'=>(∃v,e= .returned v/\J6 w' 2 v)/\w'=w:=by
 obtain ⟨b,f,d,t,c⟩:=h.kind
 have g:Hid (Rsn w 2 257 (.pointer (some b))):=⟨b,b,rfl,rfl,f,⟨fun _=>rfl,fun _=>rfl⟩,⟨d,t,c⟩,d,t,c⟩
 clear h c
 go_enter Tryz.func140,Tryz.ntmps140
 go_wp2_with fail
 go_ret
 exact ⟨⟨_,rfl,_,_,rfl,g.out⟩,rfl⟩
theorem Xo4 (x:Value) (w:World):(Instr.typeAssert (.iface 160 x) 52 158 true).run Tryz.prog w= .ok (.tuple #[.agg #[.slice none 0 0], .bool false]) w:=by kernel_rfl
def X4p (w:World) (o:Option Int) (e:Ending):Prop:=match o with
 |some n=>e= .returned (.tuple #[.iface 114 (.agg #[.int .i64 n]), .nilIface])
 |none=>∃v,e= .returned (.tuple #[.nilIface,v])/\J6 w 2 v
theorem Xo5 (f:Nat) (x:VN) (kids:List VT) (v:Value) (w:World) (ht:TreeAt w.heap.size w (f+1) (.mk x.kind x.n x.s x.keys kids) v) (hk:kids.length=x.kids.length) (hE:Errs w) (hn: -1000000000000000<=x.n/\x.n<=1000000000000000) (hs:x.s.size<=1000000):
  Calls Tryz.prog 156 #[v] w fun e w'=>X4p w' (Zm x) e/\Below w.heap.size w w':=by
 have p:=Xbg
 have q:=Wu
 have t:=Xbh
 have y:=Xbi
 have z:=Xcg
 have B:=V9
 have C:=Xbj
 have D:=Wv
 have F:=Um
 have G:=Xbk
 have J:=Vk
 have L:=Xbl
 have M:=Xch
 have P:=Un
 have R:=Ww
 have S:=Xa hE
 obtain ⟨T,V⟩:=hn
 clear hE
 rcases ht with ⟨k,_,_,_,hk0,e⟩|⟨k,_,_,hk0,e⟩|⟨k,_,_,hk0,e⟩|⟨k,_,_,hk0,e⟩|⟨k,_,_,_,it,e,hi⟩|⟨k,_,_,ks,it,e,hs',hi⟩
 ·have b:Hid (Zm x=some 0):=by unfold Hid Zm;simp[k]
  rw[b.out]
  cases e
  go_enter Tryz.func156,Tryz.ntmps156
  go_wp2_with fail
  refine (Xay _).mono ?_
  rintro e j ⟨rfl,d⟩
  go_wp2_with fail
  go_ret2
  exact ⟨rfl,d⟩
 ·have b:Hid (Zm x=none):=by unfold Hid Zm;simp[k]
  rw[b.out]
  cases e
  have l:=Xa (S.out.below ((Below.refl w.heap.size w).alloc (Nat.le_refl _) (.cells #[.int .i64 x.n] 113)))
  go_enter Tryz.func156,Tryz.ntmps156
  go_wp2_with fail
  refine (Zx _ l.out).mono ?_
  rintro e j ⟨⟨v,rfl,X,Y,rfl,g⟩,rfl⟩
  have o:=Xa g
  clear g
  go_wp2_with fail
  go_ret2
  exact ⟨⟨_,rfl,X,Y,rfl,o.out⟩,(Below.refl _ _).alloc (Nat.le_refl _) _⟩
 ·by_cases hlt:x.n< -x.n
  ·have b:Hid (Zm x=some (-x.n)):=by unfold Hid Zm;simp[k];omega
   rw[b.out]
   cases e
   go_enter Tryz.func156,Tryz.ntmps156
   go_wp2_with fail
   go_ret2
   exact ⟨rfl,(Below.refl _ _).alloc (Nat.le_refl _) _⟩
  ·have b:Hid (Zm x=some x.n):=by unfold Hid Zm;simp[k];omega
   rw[b.out]
   cases e
   go_enter Tryz.func156,Tryz.ntmps156
   go_wp2_with fail
   go_ret2
   exact ⟨rfl,(Below.refl _ _).alloc (Nat.le_refl _) _⟩
 ·have b:Hid (Zm x=some (x.s.size:Int)):=by unfold Hid Zm;simp[k]
  rw[b.out]
  cases e
  go_enter Tryz.func156,Tryz.ntmps156
  go_wp2_with fail
  go_ret2
  exact ⟨rfl,(Below.refl _ _).alloc (Nat.le_refl _) _⟩
 ·have b:Hid (Zm x=some (x.kids.length:Int)):=by unfold Hid Zm;simp[k]
  rw[b.out]
  cases e
  obtain ⟨_,a,c,rfl,_⟩:=hi
  rw[hk]
  go_enter Tryz.func156,Tryz.ntmps156
  go_wp2_with fail
  refine (Ka _ _ _ _).mono ?_
  rintro e j ⟨rfl,d⟩
  go_wp2_with fail
  go_ret2
  exact ⟨rfl,d⟩
 ·have b:Hid (Zm x=some (x.kids.length:Int)):=by unfold Hid Zm;simp[k]
  rw[b.out]
  cases e
  obtain ⟨_,a,c,rfl,_⟩:=hi
  obtain ⟨_,_,Z,c',rfl,_⟩:=hs'
  rw[hk]
  go_enter Tryz.func156,Tryz.ntmps156
  go_wp2_with fail
  refine (Ul _ _ _ _ _ _ _).mono ?_
  rintro e j ⟨rfl,d⟩
  go_wp2_with fail
  go_ret2
  exact ⟨rfl,d⟩
theorem Gj (n:Int):Yb 1 (.mk 3 n ByteArray.empty [] []) 0=Xr 3 n ByteArray.empty:=by
 rfl
theorem Xx0 {vs:List VN} (hok:okB vs=true):(-1000000000000000<=(Xd vs).n/\(Xd vs).n<=1000000000000000)/\(Xd vs).s.size<=1000000:=by
 obtain ⟨o,g,_,_⟩:=Xm hok
 have b:=(g (vs.length-1) (by omega)).1
 change Xz (Xd vs)=true at b
 unfold Xz at b
 simp only[Bool.and_eq_true] at b
 obtain ⟨f,c⟩:=b
 unfold Yr at f
 simp only[Bool.and_eq_true,Bool.not_eq_true',Bool.and_eq_false_iff,decide_eq_false_iff_not,Decidable.not_not,Nat.not_lt,Nat.le_zero,ne_eq] at f
 obtain ⟨⟨⟨j,l⟩,_⟩,_⟩:=f
 unfold Zi at c
 constructor
 ·rcases j with (h|h)|h
  ·simp[h] at c;omega
  ·simp[h] at c;omega
  ·omega
 ·rcases l with h|h
  ·simp[h,Z4] at c;omega
  ·have e:(Xd vs).s=ByteArray.empty:=by
    cases hs:(Xd vs).s with|mk d=>rw[hs,ByteArray.toList_eq] at h;simp at h;subst h;rfl
   rw[e];decide


theorem Xgq (x:Value) (w:World):(Instr.typeAssert (.iface 113 x) 52 114 true).run Tryz.prog w= .ok (.tuple #[.agg #[.int .i64 0], .bool false]) w:=by kernel_rfl
theorem Xe2 (x:Value) (w:World):(Instr.typeAssert (.iface 113 x) 52 158 true).run Tryz.prog w= .ok (.tuple #[.agg #[.slice none 0 0], .bool false]) w:=by kernel_rfl
theorem Xnt (x:Value) (w:World):(Instr.typeAssert (.iface 116 x) 52 158 true).run Tryz.prog w= .ok (.tuple #[.agg #[.slice none 0 0], .bool false]) w:=by kernel_rfl
theorem Xgr (x:Value) (w:World):(Instr.typeAssert (.iface 118 x) 52 158 true).run Tryz.prog w= .ok (.tuple #[.agg #[.slice none 0 0], .bool false]) w:=by kernel_rfl
theorem Xbr (x:Value) (w:World):(Instr.typeAssert (.iface 158 x) 52 158 true).run Tryz.prog w= .ok (.tuple #[x, .bool true]) w:=by kernel_rfl
structure Errs2 (w:World):Prop where
 errs:Errs w
 right:∃a a0:Addr,w.cell? ⟨4,0,none⟩=some (.iface 257 (.pointer (some a)))/\w.cell? ⟨3,0,none⟩=some (.iface 257 (.pointer (some a0)))/\a≠a0/\(∃cs t,w.heap[a.block]? =some (.cells cs t (0,0)))/\∃cs t,w.heap[a0.block]? =some (.cells cs t (0,0))
theorem Errs2.below {w w':World} (h:Errs2 w) (hb:Below w.heap.size w w'):Errs2 w':=by
 obtain ⟨a,l,d,f,b,⟨o,t,g⟩,c,p,j⟩:=h.right
 exact ⟨h.errs.below hb,⟨a,l,(Xc hb (X7 d)).trans d,(Xc hb (X7 f)).trans f,b,⟨o,t,(hb.block _ (Zn g)).trans g⟩,c,p,(hb.block _ (Zn j)).trans j⟩⟩
theorem Errs2.rsn {w:World} (h:Errs2 w):∃a:Addr,w.cell? ⟨4,0,none⟩=some (.iface 257 (.pointer (some a)))/\Rsn w 3 257 (.pointer (some a)):=by
 obtain ⟨a,c,d,f,b,g,j⟩:=h.right
 exact ⟨a,d,a,c,rfl,rfl,f,⟨fun e=>absurd e (by decide),fun e=>absurd e b⟩,g,j⟩
def Q2 (c:Int) (ns:List VN) (e:Ending) (w:World):Prop:=
 (c=0/\∃f t ty xv,e= .returned (.tuple #[.iface ty xv, .nilIface])/\TreeAt w.heap.size w f t (.iface ty xv)/\Yb f t 0=ns)\/
 (ns= []/\∃v,e= .returned (.tuple #[.nilIface,v])/\J6 w c v)
theorem Jf (f:Nat) (t:VT) (x:Value) (ns:List VN) (w:World) (ht:TreeAt w.heap.size w f t x) (hns:Yb f t 0=ns) (hn:ns.length<=100000) (hf:∀i,i<ns.length->Fits (Xb ns i)) (hE:Errs2 w) (ok:okB ns=true):
  Calls Tryz.prog 142 #[x] w fun e w'=>e= .returned (.tuple #[x, .nilIface])/\Below w.heap.size w w':=by
 obtain ⟨C,D,rfl⟩:=ht.iface
 have j:=Xa ht
 have d:=Xa hns
 have q:=Xa hf
 have s:=Xa hE
 clear ht hns hf hE
 go_enter Tryz.func142,Tryz.ntmps142
 go_wp2_with fail
 refine (Xcq f t _ ns w j.out d.out hn q.out).mono ?_
 rintro e y ⟨r,l,F,G,rfl,_,_,c,b⟩
 have g:=Xa b
 have z:=Xa (s.out.below b)
 have B:=Xa (TreeAt.keep (B':=y.heap.size) (fun k hk=>b.block k hk) b.size j.out)
 obtain ⟨J,L,o⟩:=Xg c.row
 obtain ⟨N,p⟩:∃N,(Xf1 ns).length=N:=⟨_,rfl⟩
 rw[p] at o
 subst o
 clear c b p
 rw[ok]
 go_wp2_with fail
 go_ret2
 exact ⟨rfl,g.out⟩
theorem Jy (f:Nat) (t:VT) (x:Value) (ns:List VN) (w:World) (ht:TreeAt w.heap.size w f t x) (hns:Yb f t 0=ns) (hn:ns.length<=100000) (hf:∀i,i<ns.length->Fits (Xb ns i)) (hE:Errs2 w) (ok:okB ns=false):
  Calls Tryz.prog 142 #[x] w fun e w'=>∃te xe,e= .returned (.tuple #[.nilIface, .iface 105 (.agg #[.int .i64 3, .iface te xe])])/\Rsn w' 3 te xe/\Below w.heap.size w w':=by
 obtain ⟨G,J,rfl⟩:=ht.iface
 have p:=Xa ht
 have g:=Xa hns
 have B:=Xa hf
 have C:=Xa hE
 clear ht hns hf hE
 go_enter Tryz.func142,Tryz.ntmps142
 go_wp2_with fail
 refine (Xcq f t _ ns w p.out g.out hn B.out).mono ?_
 rintro e D ⟨r,q,L,M,rfl,_,_,c,b⟩
 have j:=Xa b
 have l:=Xa (C.out.below b)
 have F:=Xa (TreeAt.keep (B':=D.heap.size) (fun k z=>b.block k z) b.size p.out)
 obtain ⟨P,R,s⟩:=Xg c.row
 obtain ⟨N,y⟩:∃N,(Xf1 ns).length=N:=⟨_,rfl⟩
 rw[y] at s
 subst s
 clear c b y
 rw[ok]
 obtain ⟨a,z,d⟩:=l.out.rsn
 have o:=Xa d
 clear d
 go_wp2_with fail
 go_quiet (fail)
 go_wp2_with fail
 go_ret2
 exact ⟨_,_,rfl,o.out.below (below_drewN (Below.refl _ _) nq),below_drewN j.out nq⟩
theorem Qo (v:Value):∀w,(callFunc 142 #[v]).run Tryz.prog w= .ok (.enter 142 #[v]) w:=fun w=>by kernel_rfl
end Go.Proofs.YtdjddneidbddpaaGreatDoor
