import Derived.Test.YtdjddneidbddpaaGreatDoorTo
import Derived.Laws.Concat
import Derived.Laws.IdiomStrings
import Derived.Deep.QuietTactic
import Derived.BigQuiet
import Derived.WalkSmall
import Derived.Deep.RegionWith
import Derived.Test.YtdjddneidbddpaaGreatDoorByP
import Derived.Test.YtdjddneidbddpaaGreatDoorProg
import Derived.BigRegion
namespace Go.Proofs.YtdjddneidbddpaaGreatDoor
set_option linter.unusedSectionVars false
set_option maxHeartbeats 6400000
open Go.RowKit
set_option linter.unusedSimpArgs false
set_option linter.unusedVariables false
def Xj5 (c:Nat):ByteArray:=⟨#[UInt8.ofNat (48+c%10)]⟩
theorem Xlc (c:Nat):(Xj5 c).size=1:=rfl
def Xbg:Nat→Nat→ByteArray→ByteArray
 |0,_,out=>out
 |f+1,c,out=>if 0<c then Xbg f (c/10) (Xj5 c++out) else out
theorem Xt5 (f:Nat) (out:ByteArray):Xbg f 0 out=out:=by cases f<;>simp[Xbg]
def Qt (k:Nat):ByteArray:=⟨#[109]⟩++Xbg 20 k ⟨#[]⟩
theorem Xwt (c:Nat) (w:World):(convert 22 9 (.slice (some ⟨w.heap.size,0,none⟩) 1 1)).run Tryz.prog (w.alloc (.cells #[.int .u8 (48+(c:Int)%10)] 5))= .ok (.string (Xj5 c)) (w.alloc (.cells #[.int .u8 (48+(c:Int)%10)] 5)):=by
 refine run_convert_bytes_back (P:=Tryz.prog) _ 22 9 5 ⟨w.heap.size,0,none⟩ 1 [UInt8.ofNat (48+c%10)] (by kernel_rfl) (by kernel_rfl) (by kernel_rfl) ?_
 intro j hj
 obtain rfl:j=0:=by simpa using hj
 have e:((UInt8.ofNat (48+c%10)).toNat:Int)=48+(c:Int)%10:=by
  rw[UInt8.toNat_ofNat'];omega
 show _=some (Value.int .u8 ((UInt8.ofNat (48+c%10)).toNat:Int))
 rw[e]
 simp[Addr.add]
set_option maxRecDepth 100000 in
theorem V3 (k:Nat) (w:World) (h1:1≤k) (h2:k<10^18):
  Calls Tryz.prog 47 #[.int .i64 k] w fun e w'=>e= .returned (.string (Qt k))∧Below w.heap.size w w':=by
 go_enter Tryz.func47,Tryz.ntmps47
 go_wp2_with fail
 go_loopw [0,3] (fun i o wr=>∃(f c:Nat) (out:ByteArray),i= .int .i64 c∧o= .string out∧c<10^18∧c<10^f∧f≤20∧out.size+f≤20∧Hid (Xbg f c out=Xbg 20 k ⟨#[]⟩)∧Below w.heap.size w wr) (fun i _ _=>(intOf i).toNat)
 case atStart=>exact ⟨20,k,⟨#[]⟩,rfl,rfl,h2,by omega,by omega,by decide,rfl,Below.refl _ _⟩
 case round=>
  obtain ⟨f,c,out,rfl,rfl,hc,hcf,hf,ho,HE,hb⟩:=hrel
  by_cases hc0:0<c
  ·cases f with
   |zero=>simp at hcf;omega
   | succ f =>
    have hcv:=Xwt c wr
    have hadd:=fun w=>run_string_add_sum (P:=Tryz.prog) w (Xj5 c) out (by rw[Xlc];omega)
    have hsz:(Xj5 c++out:ByteArray).size=out.size+1:=by rw[ByteArray.size_append,Xlc];omega
    have HSZ:=Xa hsz
    have HQ:Hid (c/10<10^f):=by rw[Hid];rw[Nat.pow_succ] at hcf;omega
    have HE2:Hid (Xbg f (c/10) (Xj5 c++out)=Xbg 20 k ⟨#[]⟩):=by rw[Hid,←HE.out,Xbg,if_pos hc0]
    clear hsz
    go_wp2_with fail
    go_roundw
    case rel=>exact ⟨f,c/10,_,by go_num,rfl,by omega,HQ.out,by omega,by rw[HSZ.out];omega,HE2.out,hb.alloc hb.size _⟩
    case measure=>simp[intOf];omega
  ·obtain rfl:c=0:=by omega
   have hadd:=fun w=>run_string_add_sum (P:=Tryz.prog) w ⟨#[109]⟩ out (by rw[show (⟨#[109]⟩:ByteArray).size=1 from rfl];omega)
   have HM:Hid (Qt k=⟨#[109]⟩++out):=by rw[Hid,Qt,←HE.out,Xt5]
   go_wp2_with fail
   go_ret
   refine ⟨?_,hb⟩
   rw[HM.out]
   rfl
def WRow (w:World) (b n:Nat):Prop:=∀j,j<n→(∃v,w.cell? ⟨b,j,none⟩=some v)∧w.frozen? ⟨b,j,none⟩=false
theorem WRow.set {w:World} {b n:Nat} (h:WRow w b n) (a:Addr) (v:Value):WRow (w.setCell a v) b n:=by
 intro j hj
 obtain ⟨⟨u,hu⟩,hf⟩:=h j hj
 refine ⟨?_,by rw[World.frozen?_setCell];exact hf⟩
 by_cases e:a=⟨b,j,none⟩
 ·subst e;exact ⟨v,World.cell?_setCell_same _ _ _ hu⟩
 ·exact ⟨u,by rw[World.cell?_setCell_other (h:=e)];exact hu⟩
theorem WRow.below {w w':World} {b n B:Nat} (h:WRow w b n) (hb:Below B w w') (hB:b<B):WRow w' b n:=by
 intro j hj
 obtain ⟨⟨u,hu⟩,hf⟩:=h j hj
 refine ⟨⟨u,(Xc hb hB).trans hu⟩, ?_⟩
 unfold World.frozen? at hf⊢
 rw[show w'.heap[(⟨b,j,none⟩:Addr).block]? =w.heap[(⟨b,j,none⟩:Addr).block]? from hb.block b hB]
 exact hf
def Only (P:Nat→Prop) (w w':World):Prop:=w.heap.size≤w'.heap.size∧∀c,c<w.heap.size→¬P c→w'.heap[c]? =w.heap[c]?
theorem Only.refl (P:Nat→Prop) (w:World):Only P w w:=⟨Nat.le_refl _,fun _ _ _=>rfl⟩
theorem Only.trans {P:Nat→Prop} {a b c:World} (h:Only P a b) (k:Only P b c):Only P a c:=⟨Nat.le_trans h.1 k.1,fun i h1 h2=>(k.2 i (by have:=h.1;omega) h2).trans (h.2 i h1 h2)⟩
theorem Only.set {P:Nat→Prop} (w:World) {b o:Nat} (hP:P b) (v:Value):Only P w (w.setCell ⟨b,o,none⟩ v):=⟨by simp,fun c _ hc=>Below.heap_setCell w _ v c (fun e=>hc (by rw[e];exact hP))⟩
theorem Only.of_below {P:Nat→Prop} {w w':World} (h:Below w.heap.size w w'):Only P w w':=⟨h.size,fun c hc _=>h.block c hc⟩
theorem Only.cell {P:Nat→Prop} {w w':World} (h:Only P w w') {b o:Nat} (hb:b<w.heap.size) (hP:¬P b):w'.cell? ⟨b,o,none⟩=w.cell? ⟨b,o,none⟩:=by
 unfold World.cell?
 rw[show w'.heap[(⟨b,o,none⟩:Addr).block]? =w.heap[(⟨b,o,none⟩:Addr).block]? from h.2 b hb hP]
theorem Xdc (lo b n cap k:Nat) (a:Option Addr) (w:World) (ha:0<n→a=some ⟨b,0,none⟩∧lo≤b∧b<w.heap.size∧WRow w b n) (hlo:lo≤w.heap.size) (hn:n≤1048576) (hk:k<10^17):
  Calls Tryz.prog 49 #[.slice a n cap, .int .i64 k] w fun e w'=>e= .returned (.int .i64 (k+n:Nat))∧(∀j,j<n→w'.cell? ⟨b,j,none⟩=some (.int .i64 (k+j:Nat)))∧(0<n→WRow w' b n)∧Only (fun c=>0<n∧c=b) w w'∧Below lo w w':=by
 have HA:=Xa ha
 clear ha
 go_enter Tryz.func49,Tryz.ntmps49
 go_wp2_with fail
 go_loopw [1,5] (fun q i wr=>∃c:Nat,c≤n∧q= .int .i64 (k+c:Nat)∧i= .int .i64 c∧(0<n→WRow wr b n)∧(∀j,j<c→wr.cell? ⟨b,j,none⟩=some (.int .i64 (k+j:Nat)))∧Only (fun c=>0<n∧c=b) w wr∧Below lo w wr) (fun _ i _=>n-(intOf i).toNat)
 case atStart=>exact ⟨0,Nat.zero_le _,by simp,rfl,fun h=>(HA.out h).2.2.2,fun j hj=>by omega,Only.refl _ _,Below.refl _ _⟩
 case round=>
  obtain ⟨c,hc,rfl,rfl,hw,hdone,ho,hbl⟩:=hrel
  have HD:=Xa hdone
  clear hdone
  by_cases hlt:c<n
  ·have HW:=Xa (hw (by omega))
   clear hw
   obtain ⟨rfl,hlob,hbs,_⟩:=HA.out (by omega)
   obtain ⟨⟨u,hu⟩,hfz⟩:=HW.out c hlt
   go_wp2_with fail
   go_roundw
   case rel=>
    refine ⟨c+1,by omega,by go_num,by go_num,fun _=>HW.out.set _ _,fun j hj=> ?_,ho.trans (Only.set (P:=fun c=>0<n∧c=b) _ ⟨by omega,rfl⟩ _),hbl.setCell hlob _⟩
    by_cases e:j=c
    ·subst e;rw[Int.natCast_add];exact World.cell?_setCell_same _ _ _ hu
    ·rw[World.cell?_setCell_other (h:=by simp;try omega)];exact HD.out j (by omega)
   case measure=>simp[intOf];omega
  ·obtain rfl:c=n:=by omega
   go_wp2_with fail
   go_ret
   exact ⟨rfl,HD.out,hw,ho,hbl⟩
theorem Xj6 (B:Nat) (a:Option Addr) (n cap k:Nat) (w:World) (hc:0<n→∃b,a=some ⟨b,0,none⟩∧∀j,j<n→w.cell? ⟨b,j,none⟩=some (.int .i64 (k+j:Nat))) (hn:n≤1048576) (hk:k<10^17):
  Calls Tryz.prog 94 #[.slice a n cap, .int .i64 k] w fun e w'=>e= .returned (.int .i64 (k+n:Nat))∧w'=w:=by
 have HC:=Xa hc
 clear hc
 go_enter Tryz.func94,Tryz.ntmps94
 go_wp2_with fail
 go_loopw [1,5] (fun q i wr=>∃c:Nat,c≤n∧q= .int .i64 (k+c:Nat)∧i= .int .i64 c∧wr=w) (fun _ i _=>n-(intOf i).toNat)
 case atStart=>exact ⟨0,Nat.zero_le _,by simp,rfl,rfl⟩
 case round=>
  obtain ⟨c,hc,rfl,rfl,rfl⟩:=hrel
  by_cases hlt:c<n
  ·obtain ⟨b,rfl,hcell⟩:=HC.out (by omega)
   have hc1:=hcell c hlt
   clear hcell
   go_wp2_with fail
   go_roundw
   case rel=>exact ⟨c+1,by omega,by go_num,by go_num,by trivial⟩
   case measure=>simp[intOf];omega
  ·obtain rfl:c=n:=by omega
   go_wp2_with fail
   go_ret
   exact ⟨rfl,rfl⟩
theorem Xcr (lo b n cap k:Nat) (a:Option Addr) (w:World) (ha:0<n→a=some ⟨b,0,none⟩∧lo≤b∧b<w.heap.size∧WRow w b n) (hlo:lo≤w.heap.size) (hn:n≤1048576) (hk0:1≤k) (hk:k<10^17):
  Calls Tryz.prog 48 #[.slice a n cap, .int .i64 k] w fun e w'=>e= .returned (.int .i64 (k+n:Nat))∧(∀j,j<n→w'.cell? ⟨b,j,none⟩=some (.string (Qt (k+j))))∧(0<n→WRow w' b n)∧Only (fun c=>0<n∧c=b) w w'∧Below lo w w':=by
 have HA:=Xa ha
 clear ha
 go_enter Tryz.func48,Tryz.ntmps48
 go_wp2_with fail
 go_loopw [1,5] (fun q i wr=>∃c:Nat,c≤n∧q= .int .i64 (k+c:Nat)∧i= .int .i64 c∧(0<n→WRow wr b n)∧(∀j,j<c→wr.cell? ⟨b,j,none⟩=some (.string (Qt (k+j))))∧Only (fun c=>0<n∧c=b) w wr∧Below lo w wr) (fun _ i _=>n-(intOf i).toNat)
 case atStart=>exact ⟨0,Nat.zero_le _,by simp,rfl,fun h=>(HA.out h).2.2.2,fun j hj=>by omega,Only.refl _ _,Below.refl _ _⟩
 case round=>
  obtain ⟨c,hc,rfl,rfl,hw,hdone,ho,hbl⟩:=hrel
  have HD:=Xa hdone
  clear hdone
  have zs:=ho.1
  by_cases hlt:c<n
  ·have HW:=Xa (hw (by omega))
   clear hw
   obtain ⟨rfl,hlob,hbs,_⟩:=HA.out (by omega)
   go_wp2_with fail
   rw[show ((k:Int)+(c:Int))=((k+c:Nat):Int) by omega]
   refine (V3 (k+c) _ (by omega) (by omega)).mono ?_
   rintro e w1 ⟨rfl,hb1⟩
   have HW1:=Xa (HW.out.below hb1 (by omega))
   obtain ⟨⟨u,hu⟩,hfz⟩:=HW1.out c hlt
   go_wp2_with fail
   go_roundw
   case rel=>
    refine ⟨c+1,by omega,by go_num,by go_num,fun _=>HW1.out.set _ _,fun j hj=> ?_,(ho.trans (Only.of_below hb1)).trans (Only.set (P:=fun c=>0<n∧c=b) _ ⟨by omega,rfl⟩ _),(hbl.trans (hb1.mono (by omega))).setCell hlob _⟩
    by_cases e:j=c
    ·subst e;exact World.cell?_setCell_same _ _ _ hu
    ·rw[World.cell?_setCell_other (h:=by simp;try omega),Xc hb1 (by omega)];exact HD.out j (by omega)
   case measure=>simp[intOf];omega
  ·obtain rfl:c=n:=by omega
   go_wp2_with fail
   go_ret
   exact ⟨rfl,HD.out,hw,ho,hbl⟩
set_option maxRecDepth 100000 in
theorem Xir (B:Nat) (a:Option Addr) (n cap k:Nat) (w:World) (hc:0<n→∃b,a=some ⟨b,0,none⟩∧b<w.heap.size∧∀j,j<n→w.cell? ⟨b,j,none⟩=some (.string (Qt (k+j)))) (hn:n≤1048576) (hk0:1≤k) (hk:k<10^17):
  Calls Tryz.prog 93 #[.slice a n cap, .int .i64 k] w fun e w'=>e= .returned (.int .i64 (k+n:Nat))∧Below w.heap.size w w':=by
 have HC:=Xa hc
 clear hc
 go_enter Tryz.func93,Tryz.ntmps93
 go_wp2_with fail
 go_loopw [1,5] (fun q i wr=>∃c:Nat,c≤n∧q= .int .i64 (k+c:Nat)∧i= .int .i64 c∧Below w.heap.size w wr) (fun _ i _=>n-(intOf i).toNat)
 case atStart=>exact ⟨0,Nat.zero_le _,by simp,rfl,Below.refl _ _⟩
 case round=>
  obtain ⟨c,hc,rfl,rfl,hbl⟩:=hrel
  have zs:=hbl.size
  by_cases hlt:c<n
  ·obtain ⟨b,rfl,hb,hcell⟩:=HC.out (by omega)
   have hc1:wr.cell? ⟨b,c,none⟩=some (.string (Qt (k+c))):=(Xc hbl (by omega)).trans (hcell c hlt)
   have hb2:b<wr.heap.size:=by omega
   clear hcell
   go_wp2_with fail
   go_region_with (go_at_call 47;(try rw[show ((k:Int)+(c:Int))=((k+c:Nat):Int) from (Int.natCast_add k c).symm]);refine (V3 (k+c) _ ?_ ?_).mono ?_;exact (by omega);exact (by omega);rintro e w5 ⟨rfl,hb5⟩;have hc5:=(Xc (o:=c) hb5 (by simpa using hb2)).trans hc1)
   all_goals
    have HB5:=Xa (hbl.drew.trans (hb5.mono (by simpa using zs)))
    clear hb5
    go_wp2_with fail
    go_roundw
    case rel=>exact ⟨c+1,by omega,by go_num,by go_num,HB5.out⟩
    case measure=>simp[intOf];omega
  ·obtain rfl:c=n:=by omega
   go_wp2_with fail
   go_ret
   exact ⟨rfl,hbl⟩

def off (KN IN:Nat→Nat) (k:Nat):Nat→Nat
 |0=>k
 |i+1=>off KN IN k i+3+KN i+IN i
theorem Xw4 (KN IN:Nat→Nat) (k:Nat):∀i,(∀j,j<i→KN j≤1048576∧IN j≤1048576)→off KN IN k i≤k+i *2097155:=by
 intro i
 induction i with
 |zero=>intro _;simp[off]
 | succ i ih =>
  intro h
  have:=ih (fun j hj=>h j (by omega))
  have:=h i (by omega)
  rw[off]
  omega
theorem Xog (KN IN:Nat→Nat) (k:Nat):∀i,k≤off KN IN k i:=by
 intro i
 induction i with
 |zero=>exact Nat.le_refl _
 |succ i ih=>rw[off];omega
structure Marky (lo:Nat) (w:World) (b n:Nat) (KN IN KB KI:Nat→Nat):Prop where
 low:lo≤b
 lt:b<w.heap.size
 few:n≤1048576
 row:WRow w b (n *5)
 kn:∀i,i<n→KN i≤1048576∧IN i≤1048576
 c3:∀i,i<n→∃a c,w.cell? ⟨b,i *5+3,none⟩=some (.slice a (KN i) c)∧(0<KN i→a=some ⟨KB i,0,none⟩∧lo≤KB i∧KB i<w.heap.size∧WRow w (KB i) (KN i))
 c4:∀i,i<n→∃a c,w.cell? ⟨b,i *5+4,none⟩=some (.slice a (IN i) c)∧(0<IN i→a=some ⟨KI i,0,none⟩∧lo≤KI i∧KI i<w.heap.size∧WRow w (KI i) (IN i))
 db:∀i,i<n→(0<KN i→KB i≠b)∧(0<IN i→KI i≠b)
 dkk:∀i j,i<n→j<n→i≠j→0<KN i→0<KN j→KB i≠KB j
 dki:∀i j,i<n→j<n→0<KN i→0<IN j→KB i≠KI j
 dii:∀i j,i<n→j<n→i≠j→0<IN i→0<IN j→KI i≠KI j
structure HNode (w:World) (b i kn ni kb ki o:Nat):Prop where
 lt:b<w.heap.size
 c0:w.cell? ⟨b,i *5,none⟩=some (.int .i64 (o:Nat))
 c1:w.cell? ⟨b,i *5+1,none⟩=some (.int .i64 (o+1:Nat))
 c2:w.cell? ⟨b,i *5+2,none⟩=some (.string (Qt (o+2)))
 c3:∃a c,w.cell? ⟨b,i *5+3,none⟩=some (.slice a kn c)∧(0<kn→a=some ⟨kb,0,none⟩∧kb<w.heap.size∧∀j,j<kn→w.cell? ⟨kb,j,none⟩=some (.string (Qt (o+3+j))))
 c4:∃a c,w.cell? ⟨b,i *5+4,none⟩=some (.slice a ni c)∧(0<ni→a=some ⟨ki,0,none⟩∧ki<w.heap.size∧∀j,j<ni→w.cell? ⟨ki,j,none⟩=some (.int .i64 (o+3+kn+j:Nat)))
theorem HNode.keep {w w':World} {b i kn ni kb ki o:Nat} (h:HNode w b i kn ni kb ki o) (hs:w.heap.size≤w'.heap.size) (hb:∀j,j<5→w'.cell? ⟨b,i *5+j,none⟩=w.cell? ⟨b,i *5+j,none⟩)
  (hk:0<kn→∀j,w'.cell? ⟨kb,j,none⟩=w.cell? ⟨kb,j,none⟩) (hi:0<ni→∀j,w'.cell? ⟨ki,j,none⟩=w.cell? ⟨ki,j,none⟩):HNode w' b i kn ni kb ki o:=by
 refine ⟨by have:=h.lt;omega,(hb 0 (by omega)).trans h.c0,(hb 1 (by omega)).trans h.c1,(hb 2 (by omega)).trans h.c2, ?_, ?_⟩
 ·obtain ⟨a,c,e,hx⟩:=h.c3
  refine ⟨a,c,(hb 3 (by omega)).trans e,fun hp=> ?_⟩
  obtain ⟨e1,e2,e3⟩:=hx hp
  exact ⟨e1,by omega,fun j hj=>(hk hp j).trans (e3 j hj)⟩
 ·obtain ⟨a,c,e,hx⟩:=h.c4
  refine ⟨a,c,(hb 4 (by omega)).trans e,fun hp=> ?_⟩
  obtain ⟨e1,e2,e3⟩:=hx hp
  exact ⟨e1,by omega,fun j hj=>(hi hp j).trans (e3 j hj)⟩
theorem HNode.below {w w':World} {b i kn ni kb ki o:Nat} (h:HNode w b i kn ni kb ki o) (hb:Below w.heap.size w w'):HNode w' b i kn ni kb ki o:=by
 obtain ⟨_,_,_,h3⟩:=h.c3
 obtain ⟨_,_,_,h4⟩:=h.c4
 exact h.keep hb.size (fun j _=>Xc hb h.lt) (fun hp j=>Xc hb (h3 hp).2.1) (fun hp j=>Xc hb (h4 hp).2.1)
set_option maxRecDepth 100000 in
theorem Xkb (b n cap k:Nat) (a:Option Addr) (KN IN KB KI:Nat→Nat) (w:World) (ha:0<n→a=some ⟨b,0,none⟩) (hn:n≤1048576) (hkn:∀i,i<n→KN i≤1048576∧IN i≤1048576) (hk0:1≤k) (hk:k≤10000000000000)
  (h:∀i,i<n→HNode w b i (KN i) (IN i) (KB i) (KI i) (off KN IN k i)):
  Calls Tryz.prog 50 #[.slice a n cap, .int .i64 k] w fun e w'=>e= .returned (.int .i64 (off KN IN k n:Nat))∧Below w.heap.size w w':=by
 have HA:=Xa ha
 have HK:=Xa hkn
 have HH:=Xa h
 clear ha hkn h
 go_enter Tryz.func50,Tryz.ntmps50
 go_wp2_with fail
 go_loopw [1,5] (fun q i wr=>∃c:Nat,c≤n∧q= .int .i64 (off KN IN k c:Nat)∧i= .int .i64 c∧Below w.heap.size w wr) (fun _ i _=>n-(intOf i).toNat)
 case atStart=>exact ⟨0,Nat.zero_le _,rfl,rfl,Below.refl _ _⟩
 case round=>
  obtain ⟨c,hc,rfl,rfl,hbl⟩:=hrel
  have zs:=hbl.size
  by_cases hlt:c<n
  ·obtain rfl:=HA.out (by omega)
   have hN:=(HH.out c hlt).below hbl
   have c0:=hN.c0
   have c1:=hN.c1
   have c2:=hN.c2
   obtain ⟨a3,p3,c3,h3⟩:=hN.c3
   obtain ⟨a4,p4,c4,h4⟩:=hN.c4
   have hbs:=hN.lt
   have ob:=Xw4 KN IN k c (fun j hj=>HK.out j (by omega))
   have og:=Xog KN IN k c
   have H3:=Xa h3
   have H4:=Xa h4
   have kk:=HK.out c hlt
   have HO:Hid (off KN IN k (c+1)=off KN IN k c+3+KN c+IN c):=rfl
   clear h3 h4 hN
   generalize off KN IN k c=o at *
   go_wp2_with fail
   go_region_with (go_at_call 47;(try rw[show ((o:Int)+1+1)=((o+2:Nat):Int) by omega]);refine (V3 (o+2) _ ?_ ?_).mono ?_;exact (by omega);exact (by omega);rintro e w5 ⟨rfl,hb5⟩;have d2:=(Xc (o:=c *5+2) hb5 (by simpa using hbs)).trans c2)
   all_goals
    have z5:=hb5.size
    have z5':wr.heap.size≤w5.heap.size:=by simpa using z5
    have HB5:=Xa (hbl.drew.trans (hb5.mono (by simpa using zs)))
    have d3:=(Xc (o:=c *5+3) hb5 (by simpa using hbs)).trans c3
    have d4:=(Xc (o:=c *5+4) hb5 (by simpa using hbs)).trans c4
    have HK5:Hid (0<KN c→a3=some ⟨KB c,0,none⟩∧KB c<w5.heap.size∧∀j,j<KN c→w5.cell? ⟨KB c,j,none⟩=some (.string (Qt (o+3+j)))):=by
     intro hp
     obtain ⟨e1,e2,e3⟩:=H3.out hp
     exact ⟨e1,by omega,fun j hj=>(Xc hb5 (by simpa using e2)).trans (e3 j hj)⟩
    have HI5:Hid (0<IN c→a4=some ⟨KI c,0,none⟩∧KI c<w5.heap.size∧∀j,j<IN c→w5.cell? ⟨KI c,j,none⟩=some (.int .i64 (o+3+KN c+j:Nat))):=by
     intro hp
     obtain ⟨e1,e2,e3⟩:=H4.out hp
     exact ⟨e1,by omega,fun j hj=>(Xc hb5 (by simpa using e2)).trans (e3 j hj)⟩
    clear hb5 z5 c0 c1 c2 c3 c4 d2
    go_wp2_with fail
    rw[show ((o:Int)+2+1)=((o+3:Nat):Int) by omega]
    refine (Xir 0 a3 (KN c) p3 (o+3) _ (fun hp=>⟨KB c,HK5.out hp⟩) kk.1 (by omega) (by omega)).mono ?_
    rintro e w6 ⟨rfl,hb6⟩
    have z6:=hb6.size
    have HB6:=Xa (HB5.out.trans (hb6.mono (by omega)))
    have f4:=(Xc (o:=c *5+4) hb6 (by omega)).trans d4
    have HI6:Hid (0<IN c→∃b,a4=some ⟨b,0,none⟩∧∀j,j<IN c→w6.cell? ⟨b,j,none⟩=some (.int .i64 (o+3+KN c+j:Nat))):=by
     intro hp
     obtain ⟨e1,e2,e3⟩:=HI5.out hp
     exact ⟨KI c,e1,fun j hj=>(Xc hb6 e2).trans (e3 j hj)⟩
    clear hb6 d3 d4
    go_wp2_with fail
    refine (Xj6 0 a4 (IN c) p4 (o+3+KN c) _ HI6.out kk.2 (by omega)).mono ?_
    rintro e w7 ⟨rfl,rfl⟩
    go_wp2_with fail
    go_roundw
    case rel=>exact ⟨c+1,by omega,by rw[HO.out];first|rfl|go_num|simp,by go_num,HB6.out⟩
    case measure=>simp[intOf];omega
  ·obtain rfl:c=n:=by omega
   go_wp2_with fail
   go_ret
   exact ⟨rfl,hbl⟩

theorem WRow.same {w w':World} {b n:Nat} (h:WRow w b n) (e:w'.heap[b]? =w.heap[b]?):WRow w' b n:=by
 intro j hj
 obtain ⟨⟨u,hu⟩,hf⟩:=h j hj
 refine ⟨⟨u, ?_⟩, ?_⟩
 ·unfold World.cell? at hu⊢;rw[show w'.heap[(⟨b,j,none⟩:Addr).block]? =w.heap[(⟨b,j,none⟩:Addr).block]? from e];exact hu
 ·unfold World.frozen? at hf⊢;rw[show w'.heap[(⟨b,j,none⟩:Addr).block]? =w.heap[(⟨b,j,none⟩:Addr).block]? from e];exact hf
section
variable {lo b n:Nat} {w w':World} {KN IN KB KI:Nat→Nat}
theorem Marky.keep (h:Marky lo w b n KN IN KB KI) (hs:w.heap.size≤w'.heap.size) (hb:WRow w' b (n *5)) (hc:∀i j,i<n→3≤j→j<5→w'.cell? ⟨b,i *5+j,none⟩=w.cell? ⟨b,i *5+j,none⟩)
  (hk:∀i,i<n→0<KN i→WRow w' (KB i) (KN i)) (hi:∀i,i<n→0<IN i→WRow w' (KI i) (IN i)):Marky lo w' b n KN IN KB KI:=by
 refine ⟨h.low,by have:=h.lt;omega,h.few,hb,h.kn,fun i hi'=> ?_,fun i hi'=> ?_,h.db,h.dkk,h.dki,h.dii⟩
 ·obtain ⟨a,c,e,hx⟩:=h.c3 i hi'
  refine ⟨a,c,(hc i 3 hi' (by omega) (by omega)).trans e,fun hp=> ?_⟩
  obtain ⟨e1,e2,e3,_⟩:=hx hp
  exact ⟨e1,e2,by omega,hk i hi' hp⟩
 ·obtain ⟨a,c,e,hx⟩:=h.c4 i hi'
  refine ⟨a,c,(hc i 4 hi' (by omega) (by omega)).trans e,fun hp=> ?_⟩
  obtain ⟨e1,e2,e3,_⟩:=hx hp
  exact ⟨e1,e2,by omega,hi i hi' hp⟩
theorem Marky.kr (h:Marky lo w b n KN IN KB KI) {i:Nat} (hi:i<n) (hp:0<KN i):lo≤KB i∧KB i<w.heap.size∧WRow w (KB i) (KN i):=by
 obtain ⟨a,c,e,hx⟩:=h.c3 i hi
 exact (hx hp).2
theorem Marky.ir (h:Marky lo w b n KN IN KB KI) {i:Nat} (hi:i<n) (hp:0<IN i):lo≤KI i∧KI i<w.heap.size∧WRow w (KI i) (IN i):=by
 obtain ⟨a,c,e,hx⟩:=h.c4 i hi
 exact (hx hp).2
theorem Marky.set (h:Marky lo w b n KN IN KB KI) {p:Nat} (hp:p%5<3) (v:Value):Marky lo (w.setCell ⟨b,p,none⟩ v) b n KN IN KB KI:=
 h.keep (by simp) (h.row.set _ _) (fun i j hi h3 h5=>World.cell?_setCell_other _ _ _ _ (fun e=>by have:=congrArg Addr.off e;simp at this;omega)) (fun i hi hp=>(h.kr hi hp).2.2.set _ _) (fun i hi hp=>(h.ir hi hp).2.2.set _ _)
theorem Marky.below (h:Marky lo w b n KN IN KB KI) (hb:Below w.heap.size w w'):Marky lo w' b n KN IN KB KI:=
 h.keep hb.size (h.row.below hb h.lt) (fun i j hi h3 h5=>Xc hb h.lt) (fun i hi hp=>(h.kr hi hp).2.2.below hb (h.kr hi hp).2.1) (fun i hi hp=>(h.ir hi hp).2.2.below hb (h.ir hi hp).2.1)
theorem Marky.keys (h:Marky lo w b n KN IN KB KI) {c:Nat} (hc:c<n) (ho:Only (fun x=>0<KN c∧x=KB c) w w') (hw:0<KN c→WRow w' (KB c) (KN c)):Marky lo w' b n KN IN KB KI:=by
 have hb:w'.heap[b]? =w.heap[b]? :=ho.2 b h.lt fun ⟨h1,h2⟩=>(h.db c hc).1 h1 h2.symm
 refine h.keep ho.1 (h.row.same hb) (fun i j hi h3 h5=>ho.cell h.lt fun ⟨h1,h2⟩=>(h.db c hc).1 h1 h2.symm) (fun i hi hp=> ?_) (fun i hi hp=> ?_)
 ·by_cases e:i=c
  ·subst e;exact hw hp
  ·exact (h.kr hi hp).2.2.same (ho.2 _ (h.kr hi hp).2.1 fun ⟨h1,h2⟩=>h.dkk i c hi hc e hp h1 h2)
 ·exact (h.ir hi hp).2.2.same (ho.2 _ (h.ir hi hp).2.1 fun ⟨h1,h2⟩=>h.dki c i hc hi h1 hp h2.symm)
theorem Marky.kids (h:Marky lo w b n KN IN KB KI) {c:Nat} (hc:c<n) (ho:Only (fun x=>0<IN c∧x=KI c) w w') (hw:0<IN c→WRow w' (KI c) (IN c)):Marky lo w' b n KN IN KB KI:=by
 have hb:w'.heap[b]? =w.heap[b]? :=ho.2 b h.lt fun ⟨h1,h2⟩=>(h.db c hc).2 h1 h2.symm
 refine h.keep ho.1 (h.row.same hb) (fun i j hi h3 h5=>ho.cell h.lt fun ⟨h1,h2⟩=>(h.db c hc).2 h1 h2.symm) (fun i hi hp=> ?_) (fun i hi hp=> ?_)
 ·exact (h.kr hi hp).2.2.same (ho.2 _ (h.kr hi hp).2.1 fun ⟨h1,h2⟩=>h.dki i c hi hc hp h1 h2)
 ·by_cases e:i=c
  ·subst e;exact hw hp
  ·exact (h.ir hi hp).2.2.same (ho.2 _ (h.ir hi hp).2.1 fun ⟨h1,h2⟩=>h.dii i c hi hc e hp h1 h2)
structure Turns (b c:Nat) (KN IN KB KI:Nat→Nat) (w w':World):Prop where
 size:w.heap.size≤w'.heap.size
 row:∀o,o≠c *5→o≠c *5+1→o≠c *5+2→w'.cell? ⟨b,o,none⟩=w.cell? ⟨b,o,none⟩
 rest:∀x,x<w.heap.size→x≠b→¬(0<KN c∧x=KB c)→¬(0<IN c∧x=KI c)→w'.heap[x]? =w.heap[x]?
theorem Turns.cell {b c:Nat} (t:Turns b c KN IN KB KI w w') {x o:Nat} (h1:x<w.heap.size) (h2:x≠b) (h3:¬(0<KN c∧x=KB c)) (h4:¬(0<IN c∧x=KI c)):w'.cell? ⟨x,o,none⟩=w.cell? ⟨x,o,none⟩:=by
 unfold World.cell?
 rw[show w'.heap[(⟨x,o,none⟩:Addr).block]? =w.heap[(⟨x,o,none⟩:Addr).block]? from t.rest x h1 h2 h3 h4]
theorem Turns.trans {b c:Nat} {w1 w2 w3:World} (h:Turns b c KN IN KB KI w1 w2) (k:Turns b c KN IN KB KI w2 w3):Turns b c KN IN KB KI w1 w3:=
 ⟨Nat.le_trans h.size k.size,fun o h1 h2 h3=>(k.row o h1 h2 h3).trans (h.row o h1 h2 h3),fun x h1 h2 h3 h4=>(k.rest x (by have:=h.size;omega) h2 h3 h4).trans (h.rest x h1 h2 h3 h4)⟩
theorem Turns.set {b c:Nat} (w:World) (v:Value) {p:Nat} (hp:p=c *5∨p=c *5+1∨p=c *5+2):Turns b c KN IN KB KI w (w.setCell ⟨b,p,none⟩ v):=
 ⟨by simp,fun o h1 h2 h3=>World.cell?_setCell_other _ _ _ _ (fun e=>by have:=congrArg Addr.off e;simp at this;omega),fun x h1 h2 h3 h4=>Below.heap_setCell w _ v x h2⟩
theorem Turns.below {b c:Nat} (hb:Below w.heap.size w w') (hl:b<w.heap.size):Turns b c KN IN KB KI w w':=⟨hb.size,fun o _ _ _=>Xc hb hl,fun x h _ _ _=>hb.block x h⟩
theorem Turns.only {b c:Nat} {P:Nat→Prop} (ho:Only P w w') (hl:b<w.heap.size) (hb:¬P b) (hP:∀x,P x→(0<KN c∧x=KB c)∨(0<IN c∧x=KI c)):Turns b c KN IN KB KI w w':=
 ⟨ho.1,fun o _ _ _=>ho.cell hl hb,fun x h h1 h2 h3=>ho.2 x h fun hp=>(hP x hp).elim h2 h3⟩
def Xav (b n:Nat) (KN IN KB KI:Nat→Nat) (x:Nat):Prop:=0<n∧(x=b∨∃i,i<n∧((0<KN i∧x=KB i)∨(0<IN i∧x=KI i)))
theorem Turns.marked {b c n:Nat} (t:Turns b c KN IN KB KI w w') (hc:c<n):Only (Xav b n KN IN KB KI) w w':=
 ⟨t.size,fun x h hx=>t.rest x h (fun e=>hx ⟨by omega,Or.inl e⟩) (fun e=>hx ⟨by omega,Or.inr ⟨c,hc,Or.inl e⟩⟩) (fun e=>hx ⟨by omega,Or.inr ⟨c,hc,Or.inr e⟩⟩)⟩
theorem Turns.node (h:Marky lo w b n KN IN KB KI) {c i o:Nat} (hc:c<n) (hi:i<c) (t:Turns b c KN IN KB KI w w') (hn:HNode w b i (KN i) (IN i) (KB i) (KI i) o):HNode w' b i (KN i) (IN i) (KB i) (KI i) o:=by
 have hin:i<n:=by omega
 refine hn.keep t.size (fun j hj=>t.row _ (by omega) (by omega) (by omega)) (fun hp j=> ?_) (fun hp j=> ?_)
 ·exact t.cell (h.kr hin hp).2.1 ((h.db i hin).1 hp) (fun ⟨h1,h2⟩=>h.dkk i c hin hc (by omega) hp h1 h2) (fun ⟨h1,h2⟩=>h.dki i c hin hc hp h1 h2)
 ·exact t.cell (h.ir hin hp).2.1 ((h.db i hin).2 hp) (fun ⟨h1,h2⟩=>h.dki c i hc hin h1 hp h2.symm) (fun ⟨h1,h2⟩=>h.dii i c hin hc (by omega) hp h1 h2)
end
set_option maxRecDepth 100000 in
theorem Ww (lo b n cap k:Nat) (a:Option Addr) (KN IN KB KI:Nat→Nat) (w:World) (h:0<n→a=some ⟨b,0,none⟩∧Marky lo w b n KN IN KB KI) (hlo:lo≤w.heap.size) (hn:n≤1048576) (hk0:1≤k) (hk:k≤10000000000000):
  Calls Tryz.prog 19 #[.slice a n cap, .int .i64 k] w fun e w'=>e= .returned (.int .i64 (off KN IN k n:Nat))∧(∀i,i<n→HNode w' b i (KN i) (IN i) (KB i) (KI i) (off KN IN k i))∧
   Only (Xav b n KN IN KB KI) w w'∧Below lo w w':=by
 have HA:=Xa h
 clear h
 go_enter Tryz.func19,Tryz.ntmps19
 go_wp2_with fail
 go_loopw [1,5] (fun q i wr=>∃c:Nat,c≤n∧q= .int .i64 (off KN IN k c:Nat)∧i= .int .i64 c∧(0<n→Marky lo wr b n KN IN KB KI)∧(∀i,i<c→HNode wr b i (KN i) (IN i) (KB i) (KI i) (off KN IN k i))∧Only (Xav b n KN IN KB KI) w wr∧Below lo w wr) (fun _ i _=>n-(intOf i).toNat)
 case atStart=>exact ⟨0,Nat.zero_le _,rfl,rfl,fun h=>(HA.out h).2,fun i hi=>by omega,Only.refl _ _,Below.refl _ _⟩
 case round=>
  obtain ⟨c,hc,rfl,rfl,hm,hd,ho,hbl⟩:=hrel
  have HD:=Xa hd
  have HO:=Xa ho
  have HBL:=Xa hbl
  have zs:=ho.1
  clear hd ho hbl
  by_cases hlt:c<n
  ·obtain ⟨rfl,_⟩:=HA.out (by omega)
   have HM:=Xa (hm (by omega))
   clear hm
   have kk:=HM.out.kn c hlt
   have ob:=Xw4 KN IN k c (fun j hj=>HM.out.kn j (by omega))
   have og:=Xog KN IN k c
   have HOF:Hid (off KN IN k (c+1)=off KN IN k c+3+KN c+IN c):=rfl
   have hbs:=HM.out.lt
   have hlow:=HM.out.low
   obtain ⟨⟨v0,r0⟩,f0⟩:=HM.out.row (c *5) (by omega)
   obtain ⟨⟨v1,r1⟩,f1⟩:=HM.out.row (c *5+1) (by omega)
   generalize hoo:off KN IN k c=o at *
   have HOO:=Xa hoo
   clear hoo
   have e1:(wr.setCell ⟨b,c *5,none⟩ (.int .i64 (o:Int))).cell? ⟨b,c *5+1,none⟩=some v1:=(World.cell?_setCell_other _ _ _ _ (by simp)).trans r1
   have HM2:=Xa ((HM.out.set (p:=c *5) (by omega) (.int .i64 (o:Int))).set (p:=c *5+1) (by omega) (.int .i64 ((o:Int)+1)))
   have c0:((wr.setCell ⟨b,c *5,none⟩ (.int .i64 (o:Int))).setCell ⟨b,c *5+1,none⟩ (.int .i64 ((o:Int)+1))).cell? ⟨b,c *5,none⟩=some (.int .i64 (o:Nat)):=(World.cell?_setCell_other _ _ _ _ (by simp)).trans (World.cell?_setCell_same _ _ _ r0)
   have c1:((wr.setCell ⟨b,c *5,none⟩ (.int .i64 (o:Int))).setCell ⟨b,c *5+1,none⟩ (.int .i64 ((o:Int)+1))).cell? ⟨b,c *5+1,none⟩=some (.int .i64 (o+1:Nat)):=World.cell?_setCell_same _ _ _ e1
   have HC:=Xa (And.intro c0 c1)
   have HT:=Xa ((Turns.set (KN:=KN) (IN:=IN) (KB:=KB) (KI:=KI) (b:=b) (c:=c) wr (.int .i64 (o:Int)) (Or.inl rfl)).trans (Turns.set _ (.int .i64 ((o:Int)+1)) (Or.inr (Or.inl rfl))))
   have HB2:=Xa ((HBL.out.setCell (p:=⟨b,c *5,none⟩) hlow (.int .i64 (o:Int))).setCell (p:=⟨b,c *5+1,none⟩) hlow (.int .i64 ((o:Int)+1)))
   clear c0 c1
   go_wp2_with fail
   generalize ((wr.setCell ⟨b,c *5,none⟩ (.int .i64 (o:Int))).setCell ⟨b,c *5+1,none⟩ (.int .i64 ((o:Int)+1)))=W2 at *
   (try rw[show ((o:Int)+1+1)=((o+2:Nat):Int) by omega])
   (try rw[show ((o:Int)+2)=((o+2:Nat):Int) by omega])
   clear r0 r1 e1 f0 f1
   refine (V3 (o+2) _ (by omega) (by omega)).mono ?_
   rintro e w3 ⟨rfl,hb3⟩
   have z2:=HT.out.size
   have z3:=hb3.size
   have HM3:=Xa (HM2.out.below hb3)
   have HT3:=Xa (HT.out.trans (Turns.below hb3 (by omega)))
   have HB3:=Xa (HB2.out.trans (hb3.mono (by omega)))
   have HC3:=Xa (And.intro ((Xc hb3 (by omega)).trans HC.out.1) ((Xc hb3 (by omega)).trans HC.out.2))
   clear hb3
   obtain ⟨⟨v2,r2⟩,f2⟩:=HM3.out.row (c *5+2) (by omega)
   have HM4:=Xa (HM3.out.set (p:=c *5+2) (by omega) (.string (Qt (o+2))))
   have HT4:=Xa (HT3.out.trans (Turns.set w3 (.string (Qt (o+2))) (Or.inr (Or.inr rfl))))
   have HB4:=Xa (HB3.out.setCell (p:=⟨b,c *5+2,none⟩) hlow (.string (Qt (o+2))))
   have HC4:=Xa (And.intro ((World.cell?_setCell_other w3 ⟨b,c *5+2,none⟩ _ (.string (Qt (o+2))) (by simp)).trans HC3.out.1) (And.intro ((World.cell?_setCell_other w3 ⟨b,c *5+2,none⟩ _ (.string (Qt (o+2))) (by simp)).trans HC3.out.2) (World.cell?_setCell_same w3 _ (.string (Qt (o+2))) r2)))
   obtain ⟨a3,p3,d3,h3⟩:=HM4.out.c3 c hlt
   have H3:=Xa h3
   have s4:(w3.setCell ⟨b,c *5+2,none⟩ (.string (Qt (o+2)))).heap.size=w3.heap.size:=by simp
   clear h3
   go_wp2_with fail
   generalize w3.setCell ⟨b,c *5+2,none⟩ (.string (Qt (o+2)))=W4 at *
   (try rw[show ((o:Int)+2+1)=((o+3:Nat):Int) by omega])
   (try rw[show ((o:Int)+3)=((o+3:Nat):Int) by omega])
   have hb4:=HM4.out.lt
   refine (Xcr lo (KB c) (KN c) p3 (o+3) a3 _ H3.out (by omega) kk.1 (by omega) (by omega)).mono ?_
   rintro e w5 ⟨rfl,hk5,hw5,ho5,hb5⟩
   have nb3:¬(0<KN c∧b=KB c):=fun ⟨x1,x2⟩=>(HM4.out.db c hlt).1 x1 x2.symm
   have HM5:=Xa (HM4.out.keys hlt ho5 hw5)
   have HT5:=Xa (HT4.out.trans (Turns.only ho5 hb4 nb3 (fun x h=>Or.inl h)))
   have HB5:=Xa (HB4.out.trans hb5)
   have HC5:=Xa (And.intro ((ho5.cell hb4 nb3).trans HC4.out.1) (And.intro ((ho5.cell hb4 nb3).trans HC4.out.2.1) (And.intro ((ho5.cell hb4 nb3).trans HC4.out.2.2) ((ho5.cell hb4 nb3).trans d3))))
   have HK5:=Xa hk5
   have z5:=ho5.1
   obtain ⟨a4,p4,d4,h4⟩:=HM5.out.c4 c hlt
   have H4:=Xa h4
   have hb5':=HM5.out.lt
   clear h4 hk5 hw5 ho5 hb5 d3
   go_wp2_with fail
   (try rw[show ((o:Int)+3+(KN c:Int))=((o+3+KN c:Nat):Int) by omega])
   refine (Xdc lo (KI c) (IN c) p4 (o+3+KN c) a4 _ H4.out (by omega) kk.2 (by omega)).mono ?_
   rintro e w6 ⟨rfl,hk6,hw6,ho6,hb6⟩
   have nb4:¬(0<IN c∧b=KI c):=fun ⟨x1,x2⟩=>(HM5.out.db c hlt).2 x1 x2.symm
   have HM6:=Xa (HM5.out.kids hlt ho6 hw6)
   have HT6:=Xa (HT5.out.trans (Turns.only ho6 hb5' nb4 (fun x h=>Or.inr h)))
   have HB6:=Xa (HB5.out.trans hb6)
   have HN6:Hid (HNode w6 b c (KN c) (IN c) (KB c) (KI c) o):=by
    have z6:=ho6.1
    refine ⟨by omega,(ho6.cell hb5' nb4).trans HC5.out.1,(ho6.cell hb5' nb4).trans HC5.out.2.1,(ho6.cell hb5' nb4).trans HC5.out.2.2.1,⟨a3,p3,(ho6.cell hb5' nb4).trans HC5.out.2.2.2,fun hp=> ?_⟩,⟨a4,p4,(ho6.cell hb5' nb4).trans d4,fun hp=> ?_⟩⟩
    ·have:=HM5.out.kr hlt hp
     exact ⟨(H3.out hp).1,by omega,fun j hj=>(ho6.cell this.2.1 (fun ⟨x1,x2⟩=>HM5.out.dki c c hlt hlt hp x1 x2)).trans (HK5.out j hj)⟩
    ·have:=HM5.out.ir hlt hp
     exact ⟨(H4.out hp).1,by omega,hk6⟩
   clear hk6 hw6 ho6 hb6 d4
   go_wp2_with fail
   go_roundw
   case rel=>
    refine ⟨c+1,by omega,by rw[HOF.out];first|rfl|go_num|simp,by go_num,fun _=>HM6.out,fun i hi=> ?_,HO.out.trans (HT6.out.marked hlt),HB6.out⟩
    by_cases e:i=c
    ·subst e;rw[HOO.out];exact HN6.out
    ·exact Turns.node HM.out hlt (by omega) HT6.out (HD.out i (by omega))
   case measure=>simp[intOf];omega
  ·obtain rfl:c=n:=by omega
   go_wp2_with fail
   go_ret
   exact ⟨rfl,HD.out,HO.out,HBL.out⟩

def Yq (f:Nat→Int) (j:Nat):Value:= .int .i64 (f j)
theorem Xcu {w:World} {g t N:Nat} {f:Nat→Int} (h:w.rowIs g t N (Yq f)) (x y:Nat) (u v:Int):((w.setCell ⟨g,x,none⟩ (.int .i64 u)).setCell ⟨g,y,none⟩ (.int .i64 v)).rowIs g t N (Yq (fun p=>if p=y then v else if p=x then u else f p)):=by
 refine ((h.set x _).set y _).congr fun p _=> ?_
 unfold Yq
 by_cases e1:p=y
 ·simp[e1]
 ·by_cases e2:p=x
  ·subst e2;simp[e1]
  ·simp[e1,e2]
def Sw (g:Nat) (w w':World):Prop:=w'.os=w.os∧w'.tape=w.tape∧w'.output=w.output∧Only (· =g) w w'
theorem Sw.refl (g:Nat) (w:World):Sw g w w:=⟨rfl,rfl,rfl,Only.refl _ _⟩
theorem Sw.trans {g:Nat} {a b c:World} (h:Sw g a b) (k:Sw g b c):Sw g a c:=⟨k.1.trans h.1,k.2.1.trans h.2.1,k.2.2.1.trans h.2.2.1,h.2.2.2.trans k.2.2.2⟩
theorem Sw.set {g:Nat} {a b:World} (h:Sw g a b) (o:Nat) (v:Value):Sw g a (b.setCell ⟨g,o,none⟩ v):=by
 have hb:Below g b (b.setCell ⟨g,o,none⟩ v):=(Below.refl _ _).setCell (p:=⟨g,o,none⟩) (Nat.le_refl _) v
 exact h.trans ⟨hb.os,hb.tape,hb.output,Only.set (P:=(· =g)) b rfl v⟩
theorem Sw.drew {g:Nat} {a b:World} (h:Sw g a b):Sw g a b.drew:=⟨h.1,h.2.1,h.2.2.1,h.2.2.2⟩
theorem Sw.drewN {g:Nat} {a b:World} (h:Sw g a b) (n:Nat):Sw g a (b.drewN n):=⟨h.1,h.2.1,h.2.2.1,h.2.2.2⟩
theorem Sw.below {g B:Nat} {a b:World} (h:Sw g a b) (hB:B≤g) (hs:B≤a.heap.size):Below B a b:=⟨h.1,h.2.1,h.2.2.1,h.2.2.2.1,fun k hk=>h.2.2.2.2 k (by omega) (by omega)⟩
set_option maxRecDepth 100000 in
theorem Xba (g N cap:Nat) (f:Nat→Int) (a b n:Nat) (cf:Value) (w:World) (h:w.rowIs g 3 N (Yq f)) (ha:a+n≤N) (hb:b+n≤N) (hd:a+n≤b∨b+n≤a) (hN:N≤1099511627776):
  Calls Tryz.prog 219 #[.slice (some ⟨g,0,none⟩) N cap, .int .i64 a, .int .i64 b, .int .i64 n,cf] w fun e w'=>e= .returned (.tuple #[])∧w'.rowIs g 3 N (Yq (swp a b n f))∧Sw g w w':=by
 have HR:=Xa h
 clear h
 go_enter Tryz.func219,Tryz.ntmps219
 go_wp2_with fail
 go_loopw [10] (fun i wr=>∃k:Nat,k≤n∧i= .int .i64 k∧wr.rowIs g 3 N (Yq (swp a b k f))∧Sw g w wr) (fun i _=>n-(intOf i).toNat)
 case atStart=>exact ⟨0,Nat.zero_le _,rfl,HR.out.congr fun j _=>by unfold Yq;rw[X0y],Sw.refl _ _⟩
 case round=>
  obtain ⟨k,hk,rfl,hrow,honly⟩:=hrel
  by_cases hlt:k<n
  ·have c1:=hrow.cell (i:=a+k) (by omega)
   have c2:=hrow.cell (i:=b+k) (by omega)
   have f1:=hrow.frozen (a+k)
   have f2:=hrow.frozen (b+k)
   have hak:a+k<N:=by omega
   have hbk:b+k<N:=by omega
   have hakI:(a:Int)+(k:Int)<(N:Int):=by omega
   have hbkI:(b:Int)+(k:Int)<(N:Int):=by omega
   have ta:((a:Int)+(k:Int)).toNat=a+k:=by omega
   have tb:((b:Int)+(k:Int)).toNat=b+k:=by omega
   unfold Yq at c1 c2
   have hnab:a+k≠b+k:=by omega
   have hnba:b+k≠a+k:=by omega
   have HNEW:Hid (((wr.setCell ⟨g,a+k,none⟩ (.int .i64 (swp a b k f (b+k)))).setCell ⟨g,b+k,none⟩ (.int .i64 (swp a b k f (a+k)))).drew.rowIs g 3 N (Yq (swp a b (k+1) f))):=by
    refine (Xcu hrow (a+k) (b+k) (swp a b k f (b+k)) (swp a b k f (a+k))).congr fun p _=> ?_
    unfold Yq
    rw[X0z (by omega)]
   have HO:=Xa ((honly.set (a+k) (.int .i64 (swp a b k f (b+k)))).set (b+k) (.int .i64 (swp a b k f (a+k)))).drew
   clear hrow honly
   go_wp2_with fail
   go_region
   all_goals
    go_wp2_with fail
    go_roundw
    case rel=>exact ⟨k+1,by omega,by go_num,HNEW.out,HO.out⟩
    case measure=>simp[intOf];omega
  ·obtain rfl:k=n:=by omega
   go_wp2_with fail
   refine ⟨rfl, .tuple #[],results_none rfl _ _ _,rfl,hrow,honly⟩
set_option maxRecDepth 100000 in
theorem Xi3 (g N cap:Nat) (f:Nat→Int) (a m b:Nat) (cf:Value) (w:World) (h:w.rowIs g 3 N (Yq f)) (h1:a<m) (h2:m<b) (h3:b≤N) (hN:N≤1099511627776):
  Calls Tryz.prog 218 #[.slice (some ⟨g,0,none⟩) N cap, .int .i64 a, .int .i64 m, .int .i64 b,cf] w fun e w'=>e= .returned (.tuple #[])∧w'.rowIs g 3 N (Yq (rot a m b f))∧Sw g w w':=by
 have HR:=Xa h
 clear h
 have i0:(m:Int)-(a:Int)=((m-a:Nat):Int):=by omega
 have j0:(b:Int)-(m:Int)=((b-m:Nat):Int):=by omega
 go_enter Tryz.func218,Tryz.ntmps218
 go_wp2_with fail
 go_loopw [10,11] (fun vi vj wr=>∃(s i j:Nat) (fk:Nat→Int),vi= .int .i64 i∧vj= .int .i64 j∧0<i∧0<j∧Hid (s+i=m)∧i≤m∧m+j≤b∧Hid (∀p,rot s (s+i) (s+i+j) fk p=rot a m b f p)∧wr.rowIs g 3 N (Yq fk)∧Sw g w wr) (fun vi vj _=>(intOf vi).toNat+(intOf vj).toNat)
 case atStart=>exact ⟨a,m-a,b-m,f,by go_num,by go_num,by omega,by omega,(by rw[Hid];omega),by omega,by omega,(fun p=>by rw[show a+(m-a)=m by omega,show m+(b-m)=b by omega]),HR.out,Sw.refl _ _⟩
 case round=>
  obtain ⟨s,i,j,fk,rfl,rfl,hi,hj,HS,him,hjb,HT,hrow,hsw⟩:=hrel
  have HROW:=Xa hrow
  have HSW:=Xa hsw
  clear hrow hsw i0 j0
  have es:(m:Int)-(i:Int)=(s:Int):=by have:=HS.out;omega
  by_cases e:i=j
  ·have q:((i:Int) !=(j:Int))=false:=by rw[e];simp
   have HE:=Xa e
   clear e
   go_wp2_with fail
   refine (Xba g N cap fk s m i cf wr HROW.out (by have:=HS.out;omega) (by have:=HE.out;omega) (Or.inl (by have:=HS.out;omega)) hN).mono ?_
   rintro e w1 ⟨rfl,hr1,hs1⟩
   go_wp2_with fail
   refine ⟨rfl, .tuple #[],results_none rfl _ _ _,rfl,hr1.congr fun p _=> ?_,HSW.out.trans hs1⟩
   unfold Yq
   rw[←HT.out p,←HS.out,←HE.out,X02]
  ·have q:((i:Int) !=(j:Int))=true:=by rw[bne_iff_ne];omega
   have HE:=Xa e
   clear e
   by_cases c:j<i
   ·have c':(j:Int)<(i:Int):=by omega
    have es2:(i:Int)-(j:Int)=((i-j:Nat):Int):=by omega
    have HT2:Hid (∀p,rot (s+j) (s+j+(i-j)) (s+j+(i-j)+j) (swp s m j fk) p=rot a m b f p):=fun p=>by
     rw[←HT.out p,←X00 c hj fk p,←HS.out,show s+j+(i-j)=s+i by omega]
    go_wp2_with fail
    refine (Xba g N cap fk s m j cf wr HROW.out (by have:=HS.out;omega) (by omega) (Or.inl (by have:=HS.out;omega)) hN).mono ?_
    rintro e w1 ⟨rfl,hr1,hs1⟩
    go_wp2_with fail
    go_roundw
    case rel=>exact ⟨s+j,i-j,j,swp s m j fk,by go_num,by go_num,by omega,hj,(by have:=HS.out;rw[Hid];omega),by omega,hjb,HT2,hr1,HSW.out.trans hs1⟩
    case measure=>simp[intOf];omega
   ·have c':¬(j:Int)<(i:Int):=by omega
    have es2:(j:Int)-(i:Int)=((j-i:Nat):Int):=by have:=HE.out;omega
    have es3:(m:Int)+(j:Int)-(i:Int)=((s+j:Nat):Int):=by have:=HS.out;omega
    have HT2:Hid (∀p,rot s (s+i) (s+i+(j-i)) (swp s (s+j) i fk) p=rot a m b f p):=fun p=>by
     have:=HE.out
     rw[←HT.out p,←X01 (show i<j by omega) hi fk p,show s+i+(j-i)=s+j by omega]
    go_wp2_with fail
    refine (Xba g N cap fk s (s+j) i cf wr HROW.out (by have:=HS.out;omega) (by have:=HS.out;omega) (Or.inl (by have:=HE.out;omega)) hN).mono ?_
    rintro e w1 ⟨rfl,hr1,hs1⟩
    go_wp2_with fail
    go_roundw
    case rel=>exact ⟨s,i,j-i,swp s (s+j) i fk,by go_num,by go_num,hi,by have:=HE.out;omega,HS,him,by omega,HT2,hr1,HSW.out.trans hs1⟩
    case measure=>simp[intOf];omega

def Xix (g N:Nat) (w0:World) (c1 c2:Value) (cf:Int→Int→Int):Prop:=
 ∀W,Sw g w0 W→∀x y:Int,0≤x→x<N→0≤y→y<N→Calls Tryz.prog 213 #[.int .i64 x, .int .i64 y,c1,c2] W fun e W'=>e= .returned (.int .i64 (cf x y))∧∃n,W'=W.drewN n
def We (f:Nat→Int) (N:Nat):Prop:=∀p,p<N→0≤f p∧f p<N
theorem Merged.vals {R:Int→Int→Prop} {f f':Nat→Int} {a b N:Nat} (h:Merged R f f' a b) (hv:We f N) (hb:b≤N):We f' N:=fun p hp=>by
 by_cases c:a≤p∧p<b
 ·obtain ⟨q,q1,q2,q3⟩:=h.inn p c.1 c.2
  rw[q3];exact hv q (by omega)
 ·rw[h.out p (by omega)];exact hv p hp
theorem Xd9 {s m e N:Nat} {f:Nat→Int} (hv:We f N) (h1:s≤m) (h2:m≤e) (h3:e≤N):We (rot s m e f) N:=fun p hp=>by
 obtain ⟨q,q1,q2,q3⟩:=Xgj (f:=f) h1 h2 (Nat.zero_le s) h3 p (Nat.zero_le _) hp
 rw[q3];exact hv q q2
structure Asked (R:Int→Int→Prop) (cf:Int→Int→Int) (g N:Nat) (w0:World) (c1 c2:Value) (f:Nat→Int) (a m b:Nat) (w:World):Prop where
 tot:Tot R
 cmp:Xix g N w0 c1 c2 cf
 cr:∀x y:Int,x<y→(cf y x<0↔R y x)
 row:w.rowIs g 3 N (Yq f)
 sw:Sw g w0 w
 val:We f N
 am:a<m
 mb:m<b
 bN:b≤N
 NN:N≤1099511627776
 r1:Z0 R f a m
 r2:Z0 R f m b
 cx:Xgi f a m b
set_option maxRecDepth 100000 in
theorem Xur (R:Int→Int→Prop) (cf:Int→Int→Int) (g N cap:Nat) (w0:World) (c1 c2:Value) (f:Nat→Int) (a m b:Nat) (w:World) (h:Asked R cf g N w0 c1 c2 f a m b w) (hm:m=a+1):
  Calls Tryz.prog 217 #[.slice (some ⟨g,0,none⟩) N cap, .int .i64 a, .int .i64 m, .int .i64 b, .func (.func 213) #[] #[c1,c2]] w fun e w'=>e= .returned (.tuple #[])∧∃f',w'.rowIs g 3 N (Yq f')∧Merged R f f' a b∧Sw g w0 w':=by
 have H:=Xa h
 have hab:=h.mb
 have hbN:=h.bN
 have hNN:=h.NN
 clear h
 have hone:((m:Int)-(a:Int)==1)=true:=by rw[beq_iff_eq];omega
 have h1a:a+1≤m:=by omega
 have h1b:m≤a+1:=by omega
 have HM1:=Xa hm
 clear hm
 go_enter Tryz.func217,Tryz.ntmps217
 go_wp2_with fail
 go_loopw [10,11] (fun vi vj wr=>∃i j:Nat,vi= .int .i64 i∧vj= .int .i64 j∧m≤i∧i≤j∧j≤b∧Hid (∀q,m≤q→q<i→R (f q) (f a))∧Hid (∀q,j≤q→q<b→R (f a) (f q))∧wr.rowIs g 3 N (Yq f)∧Sw g w0 wr) (fun vi vj _=>(intOf vj).toNat-(intOf vi).toNat)
 case atStart=>exact ⟨m,b,rfl,rfl,Nat.le_refl _,by omega,Nat.le_refl _,fun q h1 h2=>absurd h1 (by omega),fun q h1 h2=>absurd h1 (by omega),H.out.row,H.out.sw⟩
 case round=>
  obtain ⟨i,j,rfl,rfl,hai,hij,hjb,HL,HG,hrow,hsw⟩:=hrel
  by_cases hlt:i<j
  case pos=>
   obtain ⟨x,hx⟩:∃x:Nat,x=(i+j)/2:=⟨_,rfl⟩
   have x1:i≤x:=by omega
   have x2:x<j:=by omega
   have p0:((i:Int)+(j:Int))/2=(x:Int):=by omega
   have hxN:x<N:=by omega
   have haN:a<N:=by omega
   have d1:=hrow.cell hxN
   have d2:=hrow.cell haN
   unfold Yq at d1 d2
   have v1:=H.out.val x hxN
   have v2:=H.out.val a haN
   obtain ⟨v11,v12⟩:=v1
   obtain ⟨v21,v22⟩:=v2
   have HCR:=Xa (H.out.cr (f a) (f x) (H.out.cx a x (Nat.le_refl _) (by omega) (by omega) (by omega)))
   have HLT:=Xa (H.out.cx a x (Nat.le_refl _) (by omega) (by omega) (by omega))
   have HF:=Xa (X4p H.out.tot (a:=a) H.out.r2 (h:=x) (by omega) (by omega))
   have HROW:=Xa hrow
   have HSW:=Xa hsw
   clear hx hrow hsw
   by_cases hc:cf (f x) (f a)<0
   ·have HL2:Hid (∀q,m≤q→q<x+1→R (f q) (f a)):=fun q h1 h2=>HF.out.1 (HCR.out.1 hc) q h1 (by omega)
    go_wp2_with fail
    go_quiet ((go_at_call 213;exact Calls.quiet_of (H.out.cmp _ (HSW.out.drewN _) (f x) (f a) v11 v12 v21 v22)))
    go_wp2_with fail
    go_roundw
    case rel=>exact ⟨x+1,j,by go_num,rfl,by omega,by omega,hjb,HL2,HG,HROW.out,HSW.out.drewN nq⟩
    case measure=>simp[intOf];omega
   ·have HG2:Hid (∀q,x≤q→q<b→R (f a) (f q)):=fun q h1 h2=>HF.out.2 (Xaz H.out.tot HLT.out (fun hr=>hc (HCR.out.2 hr))) q h1 h2
    go_wp2_with fail
    go_quiet ((go_at_call 213;exact Calls.quiet_of (H.out.cmp _ (HSW.out.drewN _) (f x) (f a) v11 v12 v21 v22)))
    go_wp2_with fail
    go_roundw
    case rel=>exact ⟨i,x,rfl,rfl,hai,x1,by omega,HL,HG2,HROW.out,HSW.out.drewN nq⟩
    case measure=>simp[intOf];omega
  case neg=>
  obtain rfl:i=j:=by omega
  have HM:Hid (Merged R f (rot a m i f) a b):=X0o (by omega) hai hjb H.out.r1 H.out.r2 (fun p q h1 h2 h3 h4=>by
    obtain rfl:p=a:=by omega
    exact HL.out q h3 h4) (fun p q h1 h2 h3 h4=>by
    obtain rfl:p=a:=by omega
    exact HG.out q h3 h4)
  have ei:(i:Int)-1=((i-1:Nat):Int):=by omega
  obtain ⟨i1,hi1⟩:∃i1,i=i1+1:=⟨i-1,by omega⟩
  subst hi1
  have ei2:((i1+1:Nat):Int)-1=(i1:Int):=by omega
  clear ei
  obtain ⟨W0,rfl⟩:∃W0,W0=wr:=⟨_,rfl⟩
  have HROW:=Xa hrow
  have HSW:=Xa hsw
  clear hrow hsw hlt
  go_wp2_with fail
  go_loopw [13] (fun vk wr=>∃k:Nat,vk= .int .i64 k∧a≤k∧k≤i1∧wr.rowIs g 3 N (Yq (rot a m (k+1) f))∧Sw g w0 wr) (fun vk _=>i1-(intOf vk).toNat)
  case atStart=>exact ⟨a,rfl,Nat.le_refl _,by omega,HROW.out.congr fun p _=>by unfold Yq;rw[Xb9 (Or.inr HM1.out) (by omega) (by omega)],HSW.out⟩
  case round=>
   obtain ⟨k,rfl,hak,hki,hrow,hsw⟩:=hrel
   by_cases hlt:k<i1
   ·have q1:=hrow.cell (i:=k) (by omega)
    have q2:=hrow.cell (i:=k+1) (by omega)
    have f1:=hrow.frozen k
    have f2:=hrow.frozen (k+1)
    unfold Yq at q1 q2
    have hkN:k<N:=by omega
    have hk1N:k+1<N:=by omega
    have t1:((k:Int)+1).toNat=k+1:=by omega
    have b1:(k:Int)+1<(N:Int):=by omega
    obtain ⟨u,hu⟩:∃u,rot a m (k+1) f k=u:=⟨_,rfl⟩
    obtain ⟨v,hv⟩:∃v,rot a m (k+1) f (k+1)=v:=⟨_,rfl⟩
    rw[hu] at q1
    rw[hv] at q2
    have HNEW:Hid (((wr.setCell ⟨g,k,none⟩ (.int .i64 v)).setCell ⟨g,k+1,none⟩ (.int .i64 u)).drew.rowIs g 3 N (Yq (rot a m (k+1+1) f))):=by
     refine (Xcu hrow k (k+1) v u).congr fun p _=> ?_
     unfold Yq
     rw[HM1.out] at hu hv⊢;rw[←X43 hak f p,hu,hv]
    have HO:=Xa ((hsw.set k (.int .i64 v)).set (k+1) (.int .i64 u)).drew
    clear hrow hsw hu hv
    go_wp2_with fail
    go_region
    all_goals
     go_wp2_with fail
     go_roundw
     case rel=>exact ⟨k+1,by go_num,by omega,by omega,HNEW.out,HO.out⟩
     case measure=>simp[intOf];omega
   ·obtain rfl:k=i1:=by omega
    go_wp2_with fail
    refine ⟨rfl, .tuple #[],results_none rfl _ _ _,rfl,_,hrow,HM.out,hsw⟩
end Go.Proofs.YtdjddneidbddpaaGreatDoor
