import Derived.Test.YtdjddneidbddpaaGreatDoorSSort
import Derived.Test.YtdjddneidbddpaaGreatDoorIParts
import Derived.Test.YtdjddneidbddpaaGreatDoorLowN
import Derived.Test.YtdjddneidbddpaaGreatDoorEAs
import Derived.Deep.QuietTactic
import Derived.BigQuiet
namespace Go.Proofs.YtdjddneidbddpaaGreatDoor
set_option linter.unusedSectionVars false
set_option maxHeartbeats 3200000
open Go.RowKit
set_option linter.unusedSimpArgs false
set_option linter.unusedVariables false
structure Errs (w:World):Prop where
 et:ErrT w
 kind:∃a0:Addr,w.cell? ⟨3,0,none⟩=some (.iface 257 (.pointer (some a0)))∧∃cs t,w.heap[a0.block]? =some (.cells cs t (0,0))
theorem X8 {w:World} {b o:Nat} {v:Value} (h:w.cell? ⟨b,o,none⟩=some v):b<w.heap.size:=by
 rcases Nat.lt_or_ge b w.heap.size with h1|h1
 ·exact h1
 ·simp[World.cell?,Array.getElem?_eq_none h1] at h
theorem Zo {w:World} {b:Nat} {o:Obj} (h:w.heap[b]? =some o):b<w.heap.size:=by
 rcases Nat.lt_or_ge b w.heap.size with h'|h'
 ·exact h'
 ·simp[Array.getElem?_eq_none h'] at h
theorem Errs.below {w w':World} (h:Errs w) (hb:Below w.heap.size w w'):Errs w':=by
 obtain ⟨a0,hk,cs,t,hh⟩:=h.kind
 exact ⟨h.et.below hb h.et.lt,⟨a0,(Xc hb (X8 hk)).trans hk,cs,t,(hb.block _ (Zo hh)).trans hh⟩⟩
def Rsn (w:World) (c:Int) (te:TypeId) (xe:Value):Prop:=∃a a0:Addr,te=257∧xe= .pointer (some a)∧w.cell? ⟨3,0,none⟩=some (.iface 257 (.pointer (some a0)))∧(c=2↔a=a0)∧(∃cs t,w.heap[a.block]? =some (.cells cs t (0,0)))∧∃cs t,w.heap[a0.block]? =some (.cells cs t (0,0))
theorem Rsn.below {w w':World} {c:Int} {te:TypeId} {xe:Value} (h:Rsn w c te xe) (hb:Below w.heap.size w w'):Rsn w' c te xe:=by
 obtain ⟨a,a0,e1,e2,hk,hc,⟨cs,t,h1⟩,cs0,t0,h0⟩:=h
 exact ⟨a,a0,e1,e2,(Xc hb (X8 hk)).trans hk,hc,⟨cs,t,(hb.block _ (Zo h1)).trans h1⟩,cs0,t0,(hb.block _ (Zo h0)).trans h0⟩
def Kf (w:World) (c:Int) (v:Value):Prop:=∃te xe,v= .iface 105 (.agg #[.int .i64 c, .iface te xe])∧Rsn w c te xe
theorem Zy (w:World) (h:Errs w):Calls Tryz.prog 140 #[] w fun e w'=>(∃v,e= .returned v∧Kf w' 2 v)∧w'=w:=by
 obtain ⟨a0,hk,cs,t,hh⟩:=h.kind
 have HR:Hid (Rsn w 2 257 (.pointer (some a0))):=⟨a0,a0,rfl,rfl,hk,⟨fun _=>rfl,fun _=>rfl⟩,⟨cs,t,hh⟩,cs,t,hh⟩
 clear h hh
 go_enter Tryz.func140,Tryz.ntmps140
 go_wp2_with fail
 go_ret
 exact ⟨⟨_,rfl,_,_,rfl,HR.out⟩,rfl⟩
theorem Xpl (x:Value) (w:World):(Instr.typeAssert (.iface 160 x) 52 158 true).run Tryz.prog w= .ok (.tuple #[.agg #[.slice none 0 0], .bool false]) w:=by kernel_rfl
def X47 (w:World) (o:Option Int) (e:Ending):Prop:=match o with
 |some n=>e= .returned (.tuple #[.iface 114 (.agg #[.int .i64 n]), .nilIface])
 |none=>∃v,e= .returned (.tuple #[.nilIface,v])∧Kf w 2 v
set_option maxRecDepth 100000 in
theorem Xpm (f:Nat) (x:VN) (kids:List VT) (v:Value) (w:World) (ht:TreeAt w.heap.size w (f+1) (.mk x.kind x.n x.s x.keys kids) v) (hk:kids.length=x.kids.length) (hE:Errs w) (hn: -1000000000000000≤x.n∧x.n≤1000000000000000) (hs:x.s.size≤1000000):
  Calls Tryz.prog 156 #[v] w fun e w'=>X47 w' (Zn x) e∧Below w.heap.size w w':=by
 have ta1:=Xbv
 have ta2:=Xac
 have ta3:=Xbw
 have tb1:=Xbx
 have ti1:=Xc0
 have ti2:=Gd
 have tt1:=Xby
 have tt2:=Xad
 have tt3:=Uv
 have tl1:=Xbz
 have tl2:=Vq
 have tl3:=Xb0
 have tm1:=Xc1
 have tm2:=Uw
 have tm3:=Xae
 have HE:=Xa hE
 obtain ⟨hn1,hn2⟩:=hn
 clear hE
 rcases ht with ⟨k,_,_,_,hk0,e⟩|⟨k,_,_,hk0,e⟩|⟨k,_,_,hk0,e⟩|⟨k,_,_,hk0,e⟩|⟨k,_,_,_,it,e,hi⟩|⟨k,_,_,ks,it,e,hs',hi⟩
 ·have HL:Hid (Zn x=some 0):=by unfold Hid Zn;simp[k]
  rw[HL.out]
  cases e
  go_enter Tryz.func156,Tryz.ntmps156
  go_wp2_with fail
  refine (Xbe _).mono ?_
  rintro e w1 ⟨rfl,hb⟩
  go_wp2_with fail
  go_ret2
  exact ⟨rfl,hb⟩
 ·have HL:Hid (Zn x=none):=by unfold Hid Zn;simp[k]
  rw[HL.out]
  cases e
  have HE2:=Xa (HE.out.below ((Below.refl w.heap.size w).alloc (Nat.le_refl _) (.cells #[.int .i64 x.n] 113)))
  go_enter Tryz.func156,Tryz.ntmps156
  go_wp2_with fail
  refine (Zy _ HE2.out).mono ?_
  rintro e w1 ⟨⟨v,rfl,te,xe,rfl,hrs⟩,rfl⟩
  have HRS:=Xa hrs
  clear hrs
  go_wp2_with fail
  go_ret2
  exact ⟨⟨_,rfl,te,xe,rfl,HRS.out⟩,(Below.refl _ _).alloc (Nat.le_refl _) _⟩
 ·by_cases hlt:x.n< -x.n
  ·have HL:Hid (Zn x=some (-x.n)):=by unfold Hid Zn;simp[k];omega
   rw[HL.out]
   cases e
   go_enter Tryz.func156,Tryz.ntmps156
   go_wp2_with fail
   go_ret2
   exact ⟨rfl,(Below.refl _ _).alloc (Nat.le_refl _) _⟩
  ·have HL:Hid (Zn x=some x.n):=by unfold Hid Zn;simp[k];omega
   rw[HL.out]
   cases e
   go_enter Tryz.func156,Tryz.ntmps156
   go_wp2_with fail
   go_ret2
   exact ⟨rfl,(Below.refl _ _).alloc (Nat.le_refl _) _⟩
 ·have HL:Hid (Zn x=some (x.s.size:Int)):=by unfold Hid Zn;simp[k]
  rw[HL.out]
  cases e
  go_enter Tryz.func156,Tryz.ntmps156
  go_wp2_with fail
  go_ret2
  exact ⟨rfl,(Below.refl _ _).alloc (Nat.le_refl _) _⟩
 ·have HL:Hid (Zn x=some (x.kids.length:Int)):=by unfold Hid Zn;simp[k]
  rw[HL.out]
  cases e
  obtain ⟨_,a,c,rfl,_⟩:=hi
  rw[hk]
  go_enter Tryz.func156,Tryz.ntmps156
  go_wp2_with fail
  refine (Ki _ _ _ _).mono ?_
  rintro e w1 ⟨rfl,hb⟩
  go_wp2_with fail
  go_ret2
  exact ⟨rfl,hb⟩
 ·have HL:Hid (Zn x=some (x.kids.length:Int)):=by unfold Hid Zn;simp[k]
  rw[HL.out]
  cases e
  obtain ⟨_,a,c,rfl,_⟩:=hi
  obtain ⟨_,_,a',c',rfl,_⟩:=hs'
  rw[hk]
  go_enter Tryz.func156,Tryz.ntmps156
  go_wp2_with fail
  refine (Uu _ _ _ _ _ _ _).mono ?_
  rintro e w1 ⟨rfl,hb⟩
  go_wp2_with fail
  go_ret2
  exact ⟨rfl,hb⟩
theorem Gp (n:Int):Yi 1 (.mk 3 n ByteArray.empty [] []) 0=Xu 3 n ByteArray.empty:=by
 rfl
theorem Xyh {vs:List VN} (hok:okB vs=true):(-1000000000000000≤(Xd vs).n∧(Xd vs).n≤1000000000000000)∧(Xd vs).s.size≤1000000:=by
 obtain ⟨p1,p2,_,_⟩:=Xp hok
 have hn:=(p2 (vs.length-1) (by omega)).1
 change X9 (Xd vs)=true at hn
 unfold X9 at hn
 simp only[Bool.and_eq_true] at hn
 obtain ⟨h1,h2⟩:=hn
 unfold Yv at h1
 simp only[Bool.and_eq_true,Bool.not_eq_true',Bool.and_eq_false_iff,decide_eq_false_iff_not,Decidable.not_not,Nat.not_lt,Nat.le_zero,ne_eq] at h1
 obtain ⟨⟨⟨n1,n2⟩,_⟩,_⟩:=h1
 unfold Zk at h2
 constructor
 ·rcases n1 with (h|h)|h
  ·simp[h] at h2;omega
  ·simp[h] at h2;omega
  ·omega
 ·rcases n2 with h|h
  ·simp[h,Z7] at h2;omega
  ·have e:(Xd vs).s=ByteArray.empty:=by
    cases hs:(Xd vs).s with|mk d=>rw[hs,ByteArray.toList_eq] at h;simp at h;subst h;rfl
   rw[e];decide

theorem Xg6 (x:Value) (w:World):(Instr.typeAssert (.iface 113 x) 52 114 true).run Tryz.prog w= .ok (.tuple #[.agg #[.int .i64 0], .bool false]) w:=by kernel_rfl
theorem Xfk (x:Value) (w:World):(Instr.typeAssert (.iface 113 x) 52 158 true).run Tryz.prog w= .ok (.tuple #[.agg #[.slice none 0 0], .bool false]) w:=by kernel_rfl
theorem Xoa (x:Value) (w:World):(Instr.typeAssert (.iface 116 x) 52 158 true).run Tryz.prog w= .ok (.tuple #[.agg #[.slice none 0 0], .bool false]) w:=by kernel_rfl
theorem Xg7 (x:Value) (w:World):(Instr.typeAssert (.iface 118 x) 52 158 true).run Tryz.prog w= .ok (.tuple #[.agg #[.slice none 0 0], .bool false]) w:=by kernel_rfl
theorem Xb8 (x:Value) (w:World):(Instr.typeAssert (.iface 158 x) 52 158 true).run Tryz.prog w= .ok (.tuple #[x, .bool true]) w:=by kernel_rfl
structure Errs2 (w:World):Prop where
 errs:Errs w
 right:∃a a0:Addr,w.cell? ⟨4,0,none⟩=some (.iface 257 (.pointer (some a)))∧w.cell? ⟨3,0,none⟩=some (.iface 257 (.pointer (some a0)))∧a≠a0∧(∃cs t,w.heap[a.block]? =some (.cells cs t (0,0)))∧∃cs t,w.heap[a0.block]? =some (.cells cs t (0,0))
theorem Errs2.below {w w':World} (h:Errs2 w) (hb:Below w.heap.size w w'):Errs2 w':=by
 obtain ⟨a,a0,h1,h2,hne,⟨cs,t,h3⟩,cs0,t0,h4⟩:=h.right
 exact ⟨h.errs.below hb,⟨a,a0,(Xc hb (X8 h1)).trans h1,(Xc hb (X8 h2)).trans h2,hne,⟨cs,t,(hb.block _ (Zo h3)).trans h3⟩,cs0,t0,(hb.block _ (Zo h4)).trans h4⟩⟩
theorem Errs2.rsn {w:World} (h:Errs2 w):∃a:Addr,w.cell? ⟨4,0,none⟩=some (.iface 257 (.pointer (some a)))∧Rsn w 3 257 (.pointer (some a)):=by
 obtain ⟨a,a0,h1,h2,hne,h3,h4⟩:=h.right
 exact ⟨a,h1,a,a0,rfl,rfl,h2,⟨fun e=>absurd e (by decide),fun e=>absurd e hne⟩,h3,h4⟩
def Jd (c:Int) (ns:List VN) (e:Ending) (w:World):Prop:=
 (c=0∧∃f t ty xv,e= .returned (.tuple #[.iface ty xv, .nilIface])∧TreeAt w.heap.size w f t (.iface ty xv)∧Yi f t 0=ns)∨
 (ns= []∧∃v,e= .returned (.tuple #[.nilIface,v])∧Kf w c v)
set_option maxRecDepth 100000 in
theorem Jo (f:Nat) (t:VT) (x:Value) (ns:List VN) (w:World) (ht:TreeAt w.heap.size w f t x) (hns:Yi f t 0=ns) (hn:ns.length≤100000) (hf:∀i,i<ns.length→Fits (Xb ns i)) (hE:Errs2 w) (ok:okB ns=true):
  Calls Tryz.prog 142 #[x] w fun e w'=>e= .returned (.tuple #[x, .nilIface])∧Below w.heap.size w w':=by
 obtain ⟨ty,xv,rfl⟩:=ht.iface
 have HT:=Xa ht
 have HNS:=Xa hns
 have HF:=Xa hf
 have HE:=Xa hE
 clear ht hns hf hE
 go_enter Tryz.func142,Tryz.ntmps142
 go_wp2_with fail
 refine (Xc9 f t _ ns w HT.out HNS.out hn HF.out).mono ?_
 rintro e w1 ⟨r,base,KV,IV,rfl,_,_,hn1,hb1⟩
 have HB1:=Xa hb1
 have HE1:=Xa (HE.out.below hb1)
 have HT1:=Xa (TreeAt.keep (B':=w1.heap.size) (fun k hk=>hb1.block k hk) hb1.size HT.out)
 obtain ⟨ar,cr,er⟩:=Xj hn1.row
 obtain ⟨N,hN⟩:∃N,(Xgg ns).length=N:=⟨_,rfl⟩
 rw[hN] at er
 subst er
 clear hn1 hb1 hN
 rw[ok]
 go_wp2_with fail
 go_ret2
 exact ⟨rfl,HB1.out⟩
set_option maxRecDepth 100000 in
theorem J7 (f:Nat) (t:VT) (x:Value) (ns:List VN) (w:World) (ht:TreeAt w.heap.size w f t x) (hns:Yi f t 0=ns) (hn:ns.length≤100000) (hf:∀i,i<ns.length→Fits (Xb ns i)) (hE:Errs2 w) (ok:okB ns=false):
  Calls Tryz.prog 142 #[x] w fun e w'=>∃te xe,e= .returned (.tuple #[.nilIface, .iface 105 (.agg #[.int .i64 3, .iface te xe])])∧Rsn w' 3 te xe∧Below w.heap.size w w':=by
 obtain ⟨ty,xv,rfl⟩:=ht.iface
 have HT:=Xa ht
 have HNS:=Xa hns
 have HF:=Xa hf
 have HE:=Xa hE
 clear ht hns hf hE
 go_enter Tryz.func142,Tryz.ntmps142
 go_wp2_with fail
 refine (Xc9 f t _ ns w HT.out HNS.out hn HF.out).mono ?_
 rintro e w1 ⟨r,base,KV,IV,rfl,_,_,hn1,hb1⟩
 have HB1:=Xa hb1
 have HE1:=Xa (HE.out.below hb1)
 have HT1:=Xa (TreeAt.keep (B':=w1.heap.size) (fun k hk=>hb1.block k hk) hb1.size HT.out)
 obtain ⟨ar,cr,er⟩:=Xj hn1.row
 obtain ⟨N,hN⟩:∃N,(Xgg ns).length=N:=⟨_,rfl⟩
 rw[hN] at er
 subst er
 clear hn1 hb1 hN
 rw[ok]
 obtain ⟨a,hk,hrs⟩:=HE1.out.rsn
 have HRS:=Xa hrs
 clear hrs
 go_wp2_with fail
 go_quiet (fail)
 go_wp2_with fail
 go_ret2
 exact ⟨_,_,rfl,HRS.out.below (below_drewN (Below.refl _ _) nq),below_drewN HB1.out nq⟩
theorem Qx (v:Value):∀w,(callFunc 142 #[v]).run Tryz.prog w= .ok (.enter 142 #[v]) w:=fun w=>by kernel_rfl
end Go.Proofs.YtdjddneidbddpaaGreatDoor
