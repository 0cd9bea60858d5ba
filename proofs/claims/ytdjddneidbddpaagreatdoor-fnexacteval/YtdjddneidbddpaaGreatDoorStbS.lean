import Derived.Test.YtdjddneidbddpaaGreatDoorTo
import Derived.Laws.Concat
import Derived.Laws.IdiomStrings
import Derived.Deep.QuietTactic
import Derived.BigQuiet
import Derived.WalkSmall
import Derived.Deep.RegionWith
import Derived.Test.YtdjddneidbddpaaGreatDoorByP
import Derived.Test.YtdjddneidbddpaaGreatDoorProg
import Derived.BigRegion
namespace Go.Proofs.YtdjddneidbddpaaGreatDoor
set_option linter.unusedSectionVars false
set_option maxRecDepth 100000
set_option maxHeartbeats 6400000
open Go.RowKit
set_option linter.unusedSimpArgs false
set_option linter.unusedVariables false
def Xjn (c:Nat):ByteArray:=⟨#[UInt8.ofNat (48+c%10)]⟩
theorem Xkx (c:Nat):(Xjn c).size=1:=rfl
def Xa0:Nat->Nat->ByteArray->ByteArray
 |0,_,out=>out
 |f+1,c,out=>if 0<c then Xa0 f (c/10) (Xjn c++out) else out
theorem Xtj (f:Nat) (out:ByteArray):Xa0 f 0 out=out:=by cases f<;>simp[Xa0]
def Qq (k:Nat):ByteArray:=⟨#[109]⟩++Xa0 20 k ⟨#[]⟩
theorem Xwb (c:Nat) (w:World):(convert 22 9 (.slice (some ⟨w.heap.size,0,none⟩) 1 1)).run Tryz.prog (w.alloc (.cells #[.int .u8 (48+(c:Int)%10)] 5))= .ok (.string (Xjn c)) (w.alloc (.cells #[.int .u8 (48+(c:Int)%10)] 5)):=by
 refine run_convert_bytes_back (P:=Tryz.prog) _ 22 9 5 ⟨w.heap.size,0,none⟩ 1 [UInt8.ofNat (48+c%10)] (by kernel_rfl) (by kernel_rfl) (by kernel_rfl) ?_
 intro j b
 obtain rfl:j=0:=by simpa using b
 have e:((UInt8.ofNat (48+c%10)).toNat:Int)=48+(c:Int)%10:=by
  rw[UInt8.toNat_ofNat'];omega
 show _=some (Value.int .u8 ((UInt8.ofNat (48+c%10)).toNat:Int))
 rw[e]
 simp[Addr.add]
theorem Vw (k:Nat) (w:World) (h1:1<=k) (h2:k<10^18):
  Calls Tryz.prog 47 #[.int .i64 k] w fun e w'=>e= .returned (.string (Qq k))/\Below w.heap.size w w':=by
 go_enter Tryz.func47,Tryz.ntmps47
 go_wp2_with fail
 go_loopw [0,3] (fun i o wr=>∃(f c:Nat) (b:ByteArray),i= .int .i64 c/\o= .string b/\c<10^18/\c<10^f/\f<=20/\b.size+f<=20/\Hid (Xa0 f c b=Xa0 20 k ⟨#[]⟩)/\Below w.heap.size w wr) (fun i _ _=>(intOf i).toNat)
 case atStart=>exact ⟨20,k,⟨#[]⟩,rfl,rfl,h2,by omega,by omega,by decide,rfl,Below.refl _ _⟩
 case round=>
  obtain ⟨f,c,b,rfl,rfl,B,d,C,D,q,g⟩:=hrel
  by_cases hc0:0<c
  ·cases f with
   |zero=>simp at d;omega
   |succ f=>
    have t:=Xwb c wr
    have s:=fun w=>run_string_add_sum (P:=Tryz.prog) w (Xjn c) b (by rw[Xkx];omega)
    have j:(Xjn c++b:ByteArray).size=b.size+1:=by rw[ByteArray.size_append,Xkx];omega
    have l:=Xa j
    have y:Hid (c/10<10^f):=by rw[Hid];rw[Nat.pow_succ] at d;omega
    have p:Hid (Xa0 f (c/10) (Xjn c++b)=Xa0 20 k ⟨#[]⟩):=by rw[Hid,<-q.out,Xa0,if_pos hc0]
    go_wp2_with fail
    go_roundw
    case rel=>exact ⟨f,c/10,_,by go_num,rfl,by omega,y.out,by omega,by rw[l.out];omega,p.out,g.alloc g.size _⟩
    case measure=>simp[intOf];omega
  ·obtain rfl:c=0:=by omega
   have z:Hid (Qq k=⟨#[109]⟩++b):=by rw[Hid,Qq,<-q.out,Xtj]
   go_wp2_with fail
   go_ret
   refine ⟨?_,g⟩
   rw[z.out]
   rfl
def WRow (w:World) (b n:Nat):Prop:=∀j,j<n->(∃v,w.cell? ⟨b,j,none⟩=some v)/\w.frozen? ⟨b,j,none⟩=false
theorem WRow.set {w:World} {b n:Nat} (h:WRow w b n) (a:Addr) (v:Value):WRow (w.setCell a v) b n:=by
 intro j d
 obtain ⟨⟨u,c⟩,f⟩:=h j d
 refine ⟨?_,by rw[World.frozen?_setCell];exact f⟩
 by_cases e:a=⟨b,j,none⟩
 ·subst e;exact ⟨v,World.cell?_setCell_same _ _ _ c⟩
 ·exact ⟨u,by rw[World.cell?_setCell_other (h:=e)];exact c⟩
theorem WRow.below {w w':World} {b n B:Nat} (h:WRow w b n) (hb:Below B w w') (hB:b<B):WRow w' b n:=by
 intro j d
 obtain ⟨⟨u,f⟩,c⟩:=h j d
 refine ⟨⟨u,(Xc hb hB).trans f⟩, ?_⟩
 unfold World.frozen? at c|-
 rw[show w'.heap[(⟨b,j,none⟩:Addr).block]? =w.heap[(⟨b,j,none⟩:Addr).block]? from hb.block b hB]
 exact c
def Only (P:Nat->Prop) (w w':World):Prop:=w.heap.size<=w'.heap.size/\∀c,c<w.heap.size->¬P c->w'.heap[c]? =w.heap[c]?
theorem Only.refl (P:Nat->Prop) (w:World):Only P w w:=⟨Nat.le_refl _,fun _ _ _=>rfl⟩
theorem Only.trans {P:Nat->Prop} {a b c:World} (h:Only P a b) (k:Only P b c):Only P a c:=⟨Nat.le_trans h.1 k.1,fun i h1 h2=>(k.2 i (by have:=h.1;omega) h2).trans (h.2 i h1 h2)⟩
theorem Only.set {P:Nat->Prop} (w:World) {b o:Nat} (hP:P b) (v:Value):Only P w (w.setCell ⟨b,o,none⟩ v):=⟨by simp,fun c _ hc=>Below.heap_setCell w _ v c (fun e=>hc (by rw[e];exact hP))⟩
theorem Only.of_below {P:Nat->Prop} {w w':World} (h:Below w.heap.size w w'):Only P w w':=⟨h.size,fun c hc _=>h.block c hc⟩
theorem Only.cell {P:Nat->Prop} {w w':World} (h:Only P w w') {b o:Nat} (hb:b<w.heap.size) (hP:¬P b):w'.cell? ⟨b,o,none⟩=w.cell? ⟨b,o,none⟩:=by
 unfold World.cell?
 rw[show w'.heap[(⟨b,o,none⟩:Addr).block]? =w.heap[(⟨b,o,none⟩:Addr).block]? from h.2 b hb hP]
theorem Xct (lo b n cap k:Nat) (a:Option Addr) (w:World) (ha:0<n->a=some ⟨b,0,none⟩/\lo<=b/\b<w.heap.size/\WRow w b n) (hlo:lo<=w.heap.size) (hn:n<=1048576) (hk:k<10^17):
  Calls Tryz.prog 49 #[.slice a n cap, .int .i64 k] w fun e w'=>e= .returned (.int .i64 (k+n:Nat))/\(∀j,j<n->w'.cell? ⟨b,j,none⟩=some (.int .i64 (k+j:Nat)))/\(0<n->WRow w' b n)/\Only (fun c=>0<n/\c=b) w w'/\Below lo w w':=by
 have l:=Xa ha
 go_enter Tryz.func49,Tryz.ntmps49
 go_wp2_with fail
 go_loopw [1,5] (fun q i wr=>∃c:Nat,c<=n/\q= .int .i64 (k+c:Nat)/\i= .int .i64 c/\(0<n->WRow wr b n)/\(∀j,j<c->wr.cell? ⟨b,j,none⟩=some (.int .i64 (k+j:Nat)))/\Only (fun c=>0<n/\c=b) w wr/\Below lo w wr) (fun _ i _=>n-(intOf i).toNat)
 case atStart=>exact ⟨0,Nat.zero_le _,by simp,rfl,fun h=>(l.out h).2.2.2,fun j hj=>by omega,Only.refl _ _,Below.refl _ _⟩
 case round=>
  obtain ⟨c,C,rfl,rfl,o,d,p,f⟩:=hrel
  have s:=Xa d
  by_cases hlt:c<n
  ·have t:=Xa (o (by omega))
   obtain ⟨rfl,g,y,_⟩:=l.out (by omega)
   obtain ⟨⟨u,z⟩,B⟩:=t.out c hlt
   go_wp2_with fail
   go_roundw
   case rel=>
    refine ⟨c+1,by omega,by go_num,by go_num,fun _=>t.out.set _ _,fun j hj=> ?_,p.trans (Only.set (P:=fun c=>0<n/\c=b) _ ⟨by omega,rfl⟩ _),f.setCell g _⟩
    by_cases e:j=c
    ·subst e;rw[Int.natCast_add];exact World.cell?_setCell_same _ _ _ z
    ·rw[World.cell?_setCell_other (h:=by simp;try omega)];exact s.out j (by omega)
   case measure=>simp[intOf];omega
  ·obtain rfl:c=n:=by omega
   go_wp2_with fail
   go_ret
   exact ⟨rfl,s.out,o,p,f⟩
theorem Xjo (B:Nat) (a:Option Addr) (n cap k:Nat) (w:World) (hc:0<n->∃b,a=some ⟨b,0,none⟩/\∀j,j<n->w.cell? ⟨b,j,none⟩=some (.int .i64 (k+j:Nat))) (hn:n<=1048576) (hk:k<10^17):
  Calls Tryz.prog 94 #[.slice a n cap, .int .i64 k] w fun e w'=>e= .returned (.int .i64 (k+n:Nat))/\w'=w:=by
 have f:=Xa hc
 go_enter Tryz.func94,Tryz.ntmps94
 go_wp2_with fail
 go_loopw [1,5] (fun q i wr=>∃c:Nat,c<=n/\q= .int .i64 (k+c:Nat)/\i= .int .i64 c/\wr=w) (fun _ i _=>n-(intOf i).toNat)
 case atStart=>exact ⟨0,Nat.zero_le _,by simp,rfl,rfl⟩
 case round=>
  obtain ⟨c,hc,rfl,rfl,rfl⟩:=hrel
  by_cases hlt:c<n
  ·obtain ⟨b,rfl,d⟩:=f.out (by omega)
   go_wp2_with fail
   go_roundw
   case rel=>exact ⟨c+1,by omega,by go_num,by go_num,by trivial⟩
   case measure=>simp[intOf];omega
  ·obtain rfl:c=n:=by omega
   go_wp2_with fail
   go_ret
   exact ⟨rfl,rfl⟩
theorem Xb7 (lo b n cap k:Nat) (a:Option Addr) (w:World) (ha:0<n->a=some ⟨b,0,none⟩/\lo<=b/\b<w.heap.size/\WRow w b n) (hlo:lo<=w.heap.size) (hn:n<=1048576) (hk0:1<=k) (hk:k<10^17):
  Calls Tryz.prog 48 #[.slice a n cap, .int .i64 k] w fun e w'=>e= .returned (.int .i64 (k+n:Nat))/\(∀j,j<n->w'.cell? ⟨b,j,none⟩=some (.string (Qq (k+j))))/\(0<n->WRow w' b n)/\Only (fun c=>0<n/\c=b) w w'/\Below lo w w':=by
 have s:=Xa ha
 go_enter Tryz.func48,Tryz.ntmps48
 go_wp2_with fail
 go_loopw [1,5] (fun q i wr=>∃c:Nat,c<=n/\q= .int .i64 (k+c:Nat)/\i= .int .i64 c/\(0<n->WRow wr b n)/\(∀j,j<c->wr.cell? ⟨b,j,none⟩=some (.string (Qq (k+j))))/\Only (fun c=>0<n/\c=b) w wr/\Below lo w wr) (fun _ i _=>n-(intOf i).toNat)
 case atStart=>exact ⟨0,Nat.zero_le _,by simp,rfl,fun h=>(s.out h).2.2.2,fun j hj=>by omega,Only.refl _ _,Below.refl _ _⟩
 case round=>
  obtain ⟨c,F,rfl,rfl,t,f,p,g⟩:=hrel
  have y:=Xa f
  have G:=p.1
  by_cases hlt:c<n
  ·have z:=Xa (t (by omega))
   obtain ⟨rfl,l,B,_⟩:=s.out (by omega)
   go_wp2_with fail
   rw[show ((k:Int)+(c:Int))=((k+c:Nat):Int) by omega]
   refine (Vw (k+c) _ (by omega) (by omega)).mono ?_
   rintro e J ⟨rfl,d⟩
   have o:=Xa (z.out.below d (by omega))
   obtain ⟨⟨u,C⟩,D⟩:=o.out c hlt
   go_wp2_with fail
   go_roundw
   case rel=>
    refine ⟨c+1,by omega,by go_num,by go_num,fun _=>o.out.set _ _,fun j hj=> ?_,(p.trans (Only.of_below d)).trans (Only.set (P:=fun c=>0<n/\c=b) _ ⟨by omega,rfl⟩ _),(g.trans (d.mono (by omega))).setCell l _⟩
    by_cases e:j=c
    ·subst e;exact World.cell?_setCell_same _ _ _ C
    ·rw[World.cell?_setCell_other (h:=by simp;try omega),Xc d (by omega)];exact y.out j (by omega)
   case measure=>simp[intOf];omega
  ·obtain rfl:c=n:=by omega
   go_wp2_with fail
   go_ret
   exact ⟨rfl,y.out,t,p,g⟩
theorem Xic (B:Nat) (a:Option Addr) (n cap k:Nat) (w:World) (hc:0<n->∃b,a=some ⟨b,0,none⟩/\b<w.heap.size/\∀j,j<n->w.cell? ⟨b,j,none⟩=some (.string (Qq (k+j)))) (hn:n<=1048576) (hk0:1<=k) (hk:k<10^17):
  Calls Tryz.prog 93 #[.slice a n cap, .int .i64 k] w fun e w'=>e= .returned (.int .i64 (k+n:Nat))/\Below w.heap.size w w':=by
 have t:=Xa hc
 go_enter Tryz.func93,Tryz.ntmps93
 go_wp2_with fail
 go_loopw [1,5] (fun q i wr=>∃c:Nat,c<=n/\q= .int .i64 (k+c:Nat)/\i= .int .i64 c/\Below w.heap.size w wr) (fun _ i _=>n-(intOf i).toNat)
 case atStart=>exact ⟨0,Nat.zero_le _,by simp,rfl,Below.refl _ _⟩
 case round=>
  obtain ⟨c,hc,rfl,rfl,d⟩:=hrel
  have y:=d.size
  by_cases hlt:c<n
  ·obtain ⟨b,rfl,C,f⟩:=t.out (by omega)
   have l:wr.cell? ⟨b,c,none⟩=some (.string (Qq (k+c))):=(Xc d (by omega)).trans (f c hlt)
   have p:b<wr.heap.size:=by omega
   go_wp2_with fail
   go_region_with (go_at_call 47;(try rw[show ((k:Int)+(c:Int))=((k+c:Nat):Int) from (Int.natCast_add k c).symm]);refine (Vw (k+c) _ ?_ ?_).mono ?_;exact (by omega);exact (by omega);rintro e D ⟨rfl,g⟩;have z:=(Xc (o:=c) g (by simpa using p)).trans l)
   all_goals
    have s:=Xa (d.drew.trans (g.mono (by simpa using y)))
    go_wp2_with fail
    go_roundw
    case rel=>exact ⟨c+1,by omega,by go_num,by go_num,s.out⟩
    case measure=>simp[intOf];omega
  ·obtain rfl:c=n:=by omega
   go_wp2_with fail
   go_ret
   exact ⟨rfl,d⟩


def off (KN IN:Nat->Nat) (k:Nat):Nat->Nat
 |0=>k
 |i+1=>off KN IN k i+3+KN i+IN i
theorem Xwl (KN IN:Nat->Nat) (k:Nat):∀i,(∀j,j<i->KN j<=1048576/\IN j<=1048576)->off KN IN k i<=k+i *2097155:=by
 intro i
 induction i with
 |zero=>intro _;simp[off]
 |succ i ih=>
  intro h
  have:=ih (fun j hj=>h j (by omega))
  have:=h i (by omega)
  rw[off]
  omega
theorem Xwm (KN IN:Nat->Nat) (k:Nat):∀i,k<=off KN IN k i:=by
 intro i
 induction i with
 |zero=>exact Nat.le_refl _
 |succ i ih=>rw[off];omega
structure Marky (lo:Nat) (w:World) (b n:Nat) (KN IN KB KI:Nat->Nat):Prop where
 low:lo<=b
 lt:b<w.heap.size
 few:n<=1048576
 row:WRow w b (n *5)
 kn:∀i,i<n->KN i<=1048576/\IN i<=1048576
 c3:∀i,i<n->∃a c,w.cell? ⟨b,i *5+3,none⟩=some (.slice a (KN i) c)/\(0<KN i->a=some ⟨KB i,0,none⟩/\lo<=KB i/\KB i<w.heap.size/\WRow w (KB i) (KN i))
 c4:∀i,i<n->∃a c,w.cell? ⟨b,i *5+4,none⟩=some (.slice a (IN i) c)/\(0<IN i->a=some ⟨KI i,0,none⟩/\lo<=KI i/\KI i<w.heap.size/\WRow w (KI i) (IN i))
 db:∀i,i<n->(0<KN i->KB i≠b)/\(0<IN i->KI i≠b)
 dkk:∀i j,i<n->j<n->i≠j->0<KN i->0<KN j->KB i≠KB j
 dki:∀i j,i<n->j<n->0<KN i->0<IN j->KB i≠KI j
 dii:∀i j,i<n->j<n->i≠j->0<IN i->0<IN j->KI i≠KI j
structure HNode (w:World) (b i kn ni kb ki o:Nat):Prop where
 lt:b<w.heap.size
 c0:w.cell? ⟨b,i *5,none⟩=some (.int .i64 (o:Nat))
 c1:w.cell? ⟨b,i *5+1,none⟩=some (.int .i64 (o+1:Nat))
 c2:w.cell? ⟨b,i *5+2,none⟩=some (.string (Qq (o+2)))
 c3:∃a c,w.cell? ⟨b,i *5+3,none⟩=some (.slice a kn c)/\(0<kn->a=some ⟨kb,0,none⟩/\kb<w.heap.size/\∀j,j<kn->w.cell? ⟨kb,j,none⟩=some (.string (Qq (o+3+j))))
 c4:∃a c,w.cell? ⟨b,i *5+4,none⟩=some (.slice a ni c)/\(0<ni->a=some ⟨ki,0,none⟩/\ki<w.heap.size/\∀j,j<ni->w.cell? ⟨ki,j,none⟩=some (.int .i64 (o+3+kn+j:Nat)))
theorem HNode.keep {w w':World} {b i kn ni kb ki o:Nat} (h:HNode w b i kn ni kb ki o) (hs:w.heap.size<=w'.heap.size) (hb:∀j,j<5->w'.cell? ⟨b,i *5+j,none⟩=w.cell? ⟨b,i *5+j,none⟩)
  (hk:0<kn->∀j,w'.cell? ⟨kb,j,none⟩=w.cell? ⟨kb,j,none⟩) (hi:0<ni->∀j,w'.cell? ⟨ki,j,none⟩=w.cell? ⟨ki,j,none⟩):HNode w' b i kn ni kb ki o:=by
 refine ⟨by have:=h.lt;omega,(hb 0 (by omega)).trans h.c0,(hb 1 (by omega)).trans h.c1,(hb 2 (by omega)).trans h.c2, ?_, ?_⟩
 ·obtain ⟨a,c,e,d⟩:=h.c3
  refine ⟨a,c,(hb 3 (by omega)).trans e,fun hp=> ?_⟩
  obtain ⟨f,l,g⟩:=d hp
  exact ⟨f,by omega,fun j hj=>(hk hp j).trans (g j hj)⟩
 ·obtain ⟨a,c,e,d⟩:=h.c4
  refine ⟨a,c,(hb 4 (by omega)).trans e,fun hp=> ?_⟩
  obtain ⟨f,l,g⟩:=d hp
  exact ⟨f,by omega,fun j hj=>(hi hp j).trans (g j hj)⟩
theorem HNode.below {w w':World} {b i kn ni kb ki o:Nat} (h:HNode w b i kn ni kb ki o) (hb:Below w.heap.size w w'):HNode w' b i kn ni kb ki o:=by
 obtain ⟨_,_,_,c⟩:=h.c3
 obtain ⟨_,_,_,d⟩:=h.c4
 exact h.keep hb.size (fun j _=>Xc hb h.lt) (fun hp j=>Xc hb (c hp).2.1) (fun hp j=>Xc hb (d hp).2.1)
theorem Xjt (b n cap k:Nat) (a:Option Addr) (KN IN KB KI:Nat->Nat) (w:World) (ha:0<n->a=some ⟨b,0,none⟩) (hn:n<=1048576) (hkn:∀i,i<n->KN i<=1048576/\IN i<=1048576) (hk0:1<=k) (hk:k<=10000000000000)
  (h:∀i,i<n->HNode w b i (KN i) (IN i) (KB i) (KI i) (off KN IN k i)):
  Calls Tryz.prog 50 #[.slice a n cap, .int .i64 k] w fun e w'=>e= .returned (.int .i64 (off KN IN k n:Nat))/\Below w.heap.size w w':=by
 have HA:=Xa ha
 have M:=Xa hkn
 have HH:=Xa h
 clear ha hkn h
 go_enter Tryz.func50,Tryz.ntmps50
 go_wp2_with fail
 go_loopw [1,5] (fun q i wr=>∃c:Nat,c<=n/\q= .int .i64 (off KN IN k c:Nat)/\i= .int .i64 c/\Below w.heap.size w wr) (fun _ i _=>n-(intOf i).toNat)
 case atStart=>exact ⟨0,Nat.zero_le _,rfl,rfl,Below.refl _ _⟩
 case round=>
  obtain ⟨c,hc,rfl,rfl,g⟩:=hrel
  have zs:=g.size
  by_cases hlt:c<n
  ·obtain rfl:=HA.out (by omega)
   have l:=(HH.out c hlt).below g
   have c0:=l.c0
   have c1:=l.c1
   have P:=l.c2
   obtain ⟨R,p3,S,T⟩:=l.c3
   obtain ⟨C,p4,V,X⟩:=l.c4
   have p:=l.lt
   have ob:=Xwl KN IN k c (fun j hj=>M.out j (by omega))
   have og:=Xwm KN IN k c
   have H3:=Xa T
   have H4:=Xa X
   have Y:=M.out c hlt
   have HO:Hid (off KN IN k (c+1)=off KN IN k c+3+KN c+IN c):=rfl
   clear T X l
   generalize off KN IN k c=o at *
   go_wp2_with fail
   go_region_with (go_at_call 47;(try rw[show ((o:Int)+1+1)=((o+2:Nat):Int) by omega]);refine (Vw (o+2) _ ?_ ?_).mono ?_;exact (by omega);exact (by omega);rintro e t ⟨rfl,d⟩;have d2:=(Xc (o:=c *5+2) d (by simpa using p)).trans P)
   all_goals
    have Z:=d.size
    have ba:wr.heap.size<=t.heap.size:=by simpa using Z
    have D:=Xa (g.drew.trans (d.mono (by simpa using zs)))
    have d3:=(Xc (o:=c *5+3) d (by simpa using p)).trans S
    have d4:=(Xc (o:=c *5+4) d (by simpa using p)).trans V
    have F:Hid (0<KN c->R=some ⟨KB c,0,none⟩/\KB c<t.heap.size/\∀j,j<KN c->t.cell? ⟨KB c,j,none⟩=some (.string (Qq (o+3+j)))):=by
     intro s
     obtain ⟨y,z,B⟩:=H3.out s
     exact ⟨y,by omega,fun j hj=>(Xc d (by simpa using z)).trans (B j hj)⟩
    have G:Hid (0<IN c->C=some ⟨KI c,0,none⟩/\KI c<t.heap.size/\∀j,j<IN c->t.cell? ⟨KI c,j,none⟩=some (.int .i64 (o+3+KN c+j:Nat))):=by
     intro s
     obtain ⟨y,z,B⟩:=H4.out s
     exact ⟨y,by omega,fun j hj=>(Xc d (by simpa using z)).trans (B j hj)⟩
    clear d Z c0 c1 P S V d2
    go_wp2_with fail
    rw[show ((o:Int)+2+1)=((o+3:Nat):Int) by omega]
    refine (Xic 0 R (KN c) p3 (o+3) _ (fun s=>⟨KB c,F.out s⟩) Y.1 (by omega) (by omega)).mono ?_
    rintro e w6 ⟨rfl,f⟩
    have z6:=f.size
    have J:=Xa (D.out.trans (f.mono (by omega)))
    have f4:=(Xc (o:=c *5+4) f (by omega)).trans d4
    have L:Hid (0<IN c->∃b,C=some ⟨b,0,none⟩/\∀j,j<IN c->w6.cell? ⟨b,j,none⟩=some (.int .i64 (o+3+KN c+j:Nat))):=by
     intro s
     obtain ⟨y,z,B⟩:=G.out s
     exact ⟨KI c,y,fun j hj=>(Xc f z).trans (B j hj)⟩
    clear f d3 d4
    go_wp2_with fail
    refine (Xjo 0 C (IN c) p4 (o+3+KN c) _ L.out Y.2 (by omega)).mono ?_
    rintro e w7 ⟨rfl,rfl⟩
    go_wp2_with fail
    go_roundw
    case rel=>exact ⟨c+1,by omega,by rw[HO.out];first|rfl|go_num|simp,by go_num,J.out⟩
    case measure=>simp[intOf];omega
  ·obtain rfl:c=n:=by omega
   go_wp2_with fail
   go_ret
   exact ⟨rfl,g⟩


theorem WRow.same {w w':World} {b n:Nat} (h:WRow w b n) (e:w'.heap[b]? =w.heap[b]?):WRow w' b n:=by
 intro j f
 obtain ⟨⟨u,c⟩,d⟩:=h j f
 refine ⟨⟨u, ?_⟩, ?_⟩
 ·unfold World.cell? at c|-;rw[show w'.heap[(⟨b,j,none⟩:Addr).block]? =w.heap[(⟨b,j,none⟩:Addr).block]? from e];exact c
 ·unfold World.frozen? at d|-;rw[show w'.heap[(⟨b,j,none⟩:Addr).block]? =w.heap[(⟨b,j,none⟩:Addr).block]? from e];exact d
section
variable {lo b n:Nat} {w w':World} {KN IN KB KI:Nat->Nat}
theorem Marky.keep (h:Marky lo w b n KN IN KB KI) (hs:w.heap.size<=w'.heap.size) (hb:WRow w' b (n *5)) (hc:∀i j,i<n->3<=j->j<5->w'.cell? ⟨b,i *5+j,none⟩=w.cell? ⟨b,i *5+j,none⟩)
  (hk:∀i,i<n->0<KN i->WRow w' (KB i) (KN i)) (hi:∀i,i<n->0<IN i->WRow w' (KI i) (IN i)):Marky lo w' b n KN IN KB KI:=by
 refine ⟨h.low,by have:=h.lt;omega,h.few,hb,h.kn,fun i hi'=> ?_,fun i hi'=> ?_,h.db,h.dkk,h.dki,h.dii⟩
 ·obtain ⟨a,c,e,d⟩:=h.c3 i hi'
  refine ⟨a,c,(hc i 3 hi' (by omega) (by omega)).trans e,fun hp=> ?_⟩
  obtain ⟨f,g,l,_⟩:=d hp
  exact ⟨f,g,by omega,hk i hi' hp⟩
 ·obtain ⟨a,c,e,d⟩:=h.c4 i hi'
  refine ⟨a,c,(hc i 4 hi' (by omega) (by omega)).trans e,fun hp=> ?_⟩
  obtain ⟨f,g,l,_⟩:=d hp
  exact ⟨f,g,by omega,hi i hi' hp⟩
theorem Marky.kr (h:Marky lo w b n KN IN KB KI) {i:Nat} (hi:i<n) (hp:0<KN i):lo<=KB i/\KB i<w.heap.size/\WRow w (KB i) (KN i):=by
 obtain ⟨a,c,e,d⟩:=h.c3 i hi
 exact (d hp).2
theorem Marky.ir (h:Marky lo w b n KN IN KB KI) {i:Nat} (hi:i<n) (hp:0<IN i):lo<=KI i/\KI i<w.heap.size/\WRow w (KI i) (IN i):=by
 obtain ⟨a,c,e,d⟩:=h.c4 i hi
 exact (d hp).2
theorem Marky.set (h:Marky lo w b n KN IN KB KI) {p:Nat} (hp:p%5<3) (v:Value):Marky lo (w.setCell ⟨b,p,none⟩ v) b n KN IN KB KI:=
 h.keep (by simp) (h.row.set _ _) (fun i j hi h3 h5=>World.cell?_setCell_other _ _ _ _ (fun e=>by have:=congrArg Addr.off e;simp at this;omega)) (fun i hi hp=>(h.kr hi hp).2.2.set _ _) (fun i hi hp=>(h.ir hi hp).2.2.set _ _)
theorem Marky.below (h:Marky lo w b n KN IN KB KI) (hb:Below w.heap.size w w'):Marky lo w' b n KN IN KB KI:=
 h.keep hb.size (h.row.below hb h.lt) (fun i j hi h3 h5=>Xc hb h.lt) (fun i hi hp=>(h.kr hi hp).2.2.below hb (h.kr hi hp).2.1) (fun i hi hp=>(h.ir hi hp).2.2.below hb (h.ir hi hp).2.1)
theorem Marky.keys (h:Marky lo w b n KN IN KB KI) {c:Nat} (hc:c<n) (ho:Only (fun x=>0<KN c/\x=KB c) w w') (hw:0<KN c->WRow w' (KB c) (KN c)):Marky lo w' b n KN IN KB KI:=by
 have d:w'.heap[b]? =w.heap[b]? :=ho.2 b h.lt fun ⟨h1,h2⟩=>(h.db c hc).1 h1 h2.symm
 refine h.keep ho.1 (h.row.same d) (fun i j hi h3 h5=>ho.cell h.lt fun ⟨h1,h2⟩=>(h.db c hc).1 h1 h2.symm) (fun i hi hp=> ?_) (fun i hi hp=> ?_)
 ·by_cases e:i=c
  ·subst e;exact hw hp
  ·exact (h.kr hi hp).2.2.same (ho.2 _ (h.kr hi hp).2.1 fun ⟨h1,h2⟩=>h.dkk i c hi hc e hp h1 h2)
 ·exact (h.ir hi hp).2.2.same (ho.2 _ (h.ir hi hp).2.1 fun ⟨h1,h2⟩=>h.dki c i hc hi h1 hp h2.symm)
theorem Marky.kids (h:Marky lo w b n KN IN KB KI) {c:Nat} (hc:c<n) (ho:Only (fun x=>0<IN c/\x=KI c) w w') (hw:0<IN c->WRow w' (KI c) (IN c)):Marky lo w' b n KN IN KB KI:=by
 have d:w'.heap[b]? =w.heap[b]? :=ho.2 b h.lt fun ⟨h1,h2⟩=>(h.db c hc).2 h1 h2.symm
 refine h.keep ho.1 (h.row.same d) (fun i j hi h3 h5=>ho.cell h.lt fun ⟨h1,h2⟩=>(h.db c hc).2 h1 h2.symm) (fun i hi hp=> ?_) (fun i hi hp=> ?_)
 ·exact (h.kr hi hp).2.2.same (ho.2 _ (h.kr hi hp).2.1 fun ⟨h1,h2⟩=>h.dki i c hi hc hp h1 h2)
 ·by_cases e:i=c
  ·subst e;exact hw hp
  ·exact (h.ir hi hp).2.2.same (ho.2 _ (h.ir hi hp).2.1 fun ⟨h1,h2⟩=>h.dii i c hi hc e hp h1 h2)
structure Turns (b c:Nat) (KN IN KB KI:Nat->Nat) (w w':World):Prop where
 size:w.heap.size<=w'.heap.size
 row:∀o,o≠c *5->o≠c *5+1->o≠c *5+2->w'.cell? ⟨b,o,none⟩=w.cell? ⟨b,o,none⟩
 rest:∀x,x<w.heap.size->x≠b->¬(0<KN c/\x=KB c)->¬(0<IN c/\x=KI c)->w'.heap[x]? =w.heap[x]?
theorem Turns.cell {b c:Nat} (t:Turns b c KN IN KB KI w w') {x o:Nat} (h1:x<w.heap.size) (h2:x≠b) (h3:¬(0<KN c/\x=KB c)) (h4:¬(0<IN c/\x=KI c)):w'.cell? ⟨x,o,none⟩=w.cell? ⟨x,o,none⟩:=by
 unfold World.cell?
 rw[show w'.heap[(⟨x,o,none⟩:Addr).block]? =w.heap[(⟨x,o,none⟩:Addr).block]? from t.rest x h1 h2 h3 h4]
theorem Turns.trans {b c:Nat} {w1 w2 w3:World} (h:Turns b c KN IN KB KI w1 w2) (k:Turns b c KN IN KB KI w2 w3):Turns b c KN IN KB KI w1 w3:=
 ⟨Nat.le_trans h.size k.size,fun o h1 h2 h3=>(k.row o h1 h2 h3).trans (h.row o h1 h2 h3),fun x h1 h2 h3 h4=>(k.rest x (by have:=h.size;omega) h2 h3 h4).trans (h.rest x h1 h2 h3 h4)⟩
theorem Turns.set {b c:Nat} (w:World) (v:Value) {p:Nat} (hp:p=c *5\/p=c *5+1\/p=c *5+2):Turns b c KN IN KB KI w (w.setCell ⟨b,p,none⟩ v):=
 ⟨by simp,fun o h1 h2 h3=>World.cell?_setCell_other _ _ _ _ (fun e=>by have:=congrArg Addr.off e;simp at this;omega),fun x h1 h2 h3 h4=>Below.heap_setCell w _ v x h2⟩
theorem Turns.below {b c:Nat} (hb:Below w.heap.size w w') (hl:b<w.heap.size):Turns b c KN IN KB KI w w':=⟨hb.size,fun o _ _ _=>Xc hb hl,fun x h _ _ _=>hb.block x h⟩
theorem Turns.only {b c:Nat} {P:Nat->Prop} (ho:Only P w w') (hl:b<w.heap.size) (hb:¬P b) (hP:∀x,P x->(0<KN c/\x=KB c)\/(0<IN c/\x=KI c)):Turns b c KN IN KB KI w w':=
 ⟨ho.1,fun o _ _ _=>ho.cell hl hb,fun x h h1 h2 h3=>ho.2 x h fun hp=>(hP x hp).elim h2 h3⟩
def Xaj (b n:Nat) (KN IN KB KI:Nat->Nat) (x:Nat):Prop:=0<n/\(x=b\/∃i,i<n/\((0<KN i/\x=KB i)\/(0<IN i/\x=KI i)))
theorem Turns.marked {b c n:Nat} (t:Turns b c KN IN KB KI w w') (hc:c<n):Only (Xaj b n KN IN KB KI) w w':=
 ⟨t.size,fun x h hx=>t.rest x h (fun e=>hx ⟨by omega,Or.inl e⟩) (fun e=>hx ⟨by omega,Or.inr ⟨c,hc,Or.inl e⟩⟩) (fun e=>hx ⟨by omega,Or.inr ⟨c,hc,Or.inr e⟩⟩)⟩
theorem Turns.node (h:Marky lo w b n KN IN KB KI) {c i o:Nat} (hc:c<n) (hi:i<c) (t:Turns b c KN IN KB KI w w') (hn:HNode w b i (KN i) (IN i) (KB i) (KI i) o):HNode w' b i (KN i) (IN i) (KB i) (KI i) o:=by
 have d:i<n:=by omega
 refine hn.keep t.size (fun j hj=>t.row _ (by omega) (by omega) (by omega)) (fun hp j=> ?_) (fun hp j=> ?_)
 ·exact t.cell (h.kr d hp).2.1 ((h.db i d).1 hp) (fun ⟨h1,h2⟩=>h.dkk i c d hc (by omega) hp h1 h2) (fun ⟨h1,h2⟩=>h.dki i c d hc hp h1 h2)
 ·exact t.cell (h.ir d hp).2.1 ((h.db i d).2 hp) (fun ⟨h1,h2⟩=>h.dki c i hc d h1 hp h2.symm) (fun ⟨h1,h2⟩=>h.dii i c d hc (by omega) hp h1 h2)
end
theorem Wl (lo b n cap k:Nat) (a:Option Addr) (KN IN KB KI:Nat->Nat) (w:World) (h:0<n->a=some ⟨b,0,none⟩/\Marky lo w b n KN IN KB KI) (hlo:lo<=w.heap.size) (hn:n<=1048576) (hk0:1<=k) (hk:k<=10000000000000):
  Calls Tryz.prog 19 #[.slice a n cap, .int .i64 k] w fun e w'=>e= .returned (.int .i64 (off KN IN k n:Nat))/\(∀i,i<n->HNode w' b i (KN i) (IN i) (KB i) (KI i) (off KN IN k i))/\
   Only (Xaj b n KN IN KB KI) w w'/\Below lo w w':=by
 have HA:=Xa h
 go_enter Tryz.func19,Tryz.ntmps19
 go_wp2_with fail
 go_loopw [1,5] (fun q i wr=>∃c:Nat,c<=n/\q= .int .i64 (off KN IN k c:Nat)/\i= .int .i64 c/\(0<n->Marky lo wr b n KN IN KB KI)/\(∀i,i<c->HNode wr b i (KN i) (IN i) (KB i) (KI i) (off KN IN k i))/\Only (Xaj b n KN IN KB KI) w wr/\Below lo w wr) (fun _ i _=>n-(intOf i).toNat)
 case atStart=>exact ⟨0,Nat.zero_le _,rfl,rfl,fun h=>(HA.out h).2,fun i hi=>by omega,Only.refl _ _,Below.refl _ _⟩
 case round=>
  obtain ⟨c,hc,rfl,rfl,hm,hd,ho,S⟩:=hrel
  have HD:=Xa hd
  have HO:=Xa ho
  have J:=Xa S
  by_cases hlt:c<n
  ·obtain ⟨rfl,_⟩:=HA.out (by omega)
   have F:=Xa (hm (by omega))
   have kk:=F.out.kn c hlt
   have ob:=Xwl KN IN k c (fun j hj=>F.out.kn j (by omega))
   have T:Hid (off KN IN k (c+1)=off KN IN k c+3+KN c+IN c):=rfl
   have bp:=F.out.lt
   have t:=F.out.low
   obtain ⟨⟨v0,r0⟩,f0⟩:=F.out.row (c *5) (by omega)
   obtain ⟨⟨v1,r1⟩,f1⟩:=F.out.row (c *5+1) (by omega)
   generalize hoo:off KN IN k c=o at *
   have V:=Xa hoo
   have e1:(wr.setCell ⟨b,c *5,none⟩ (.int .i64 (o:Int))).cell? ⟨b,c *5+1,none⟩=some v1:=(World.cell?_setCell_other _ _ _ _ (by simp)).trans r1
   have X:=Xa ((F.out.set (p:=c *5) (by omega) (.int .i64 (o:Int))).set (p:=c *5+1) (by omega) (.int .i64 ((o:Int)+1)))
   have c0:((wr.setCell ⟨b,c *5,none⟩ (.int .i64 (o:Int))).setCell ⟨b,c *5+1,none⟩ (.int .i64 ((o:Int)+1))).cell? ⟨b,c *5,none⟩=some (.int .i64 (o:Nat)):=(World.cell?_setCell_other _ _ _ _ (by simp)).trans (World.cell?_setCell_same _ _ _ r0)
   have c1:((wr.setCell ⟨b,c *5,none⟩ (.int .i64 (o:Int))).setCell ⟨b,c *5+1,none⟩ (.int .i64 ((o:Int)+1))).cell? ⟨b,c *5+1,none⟩=some (.int .i64 (o+1:Nat)):=World.cell?_setCell_same _ _ _ e1
   have HC:=Xa (And.intro c0 c1)
   have HT:=Xa ((Turns.set (KN:=KN) (IN:=IN) (KB:=KB) (KI:=KI) (b:=b) (c:=c) wr (.int .i64 (o:Int)) (Or.inl rfl)).trans (Turns.set _ (.int .i64 ((o:Int)+1)) (Or.inr (Or.inl rfl))))
   have Y:=Xa ((J.out.setCell (p:=⟨b,c *5,none⟩) t (.int .i64 (o:Int))).setCell (p:=⟨b,c *5+1,none⟩) t (.int .i64 ((o:Int)+1)))
   go_wp2_with fail
   generalize ((wr.setCell ⟨b,c *5,none⟩ (.int .i64 (o:Int))).setCell ⟨b,c *5+1,none⟩ (.int .i64 ((o:Int)+1)))=W2 at *
   (try rw[show ((o:Int)+1+1)=((o+2:Nat):Int) by omega])
   (try rw[show ((o:Int)+2)=((o+2:Nat):Int) by omega])
   refine (Vw (o+2) _ (by omega) (by omega)).mono ?_
   rintro e L ⟨rfl,y⟩
   have z2:=HT.out.size
   have M:=Xa (X.out.below y)
   have Z:=Xa (HT.out.trans (Turns.below y (by omega)))
   have ba:=Xa (Y.out.trans (y.mono (by omega)))
   have P:=Xa (And.intro ((Xc y (by omega)).trans HC.out.1) ((Xc y (by omega)).trans HC.out.2))
   obtain ⟨⟨v2,r2⟩,f2⟩:=M.out.row (c *5+2) (by omega)
   have C:=Xa (M.out.set (p:=c *5+2) (by omega) (.string (Qq (o+2))))
   have bb:=Xa (Z.out.trans (Turns.set L (.string (Qq (o+2))) (Or.inr (Or.inr rfl))))
   have bc:=Xa (ba.out.setCell (p:=⟨b,c *5+2,none⟩) t (.string (Qq (o+2))))
   have G:=Xa (And.intro ((World.cell?_setCell_other L ⟨b,c *5+2,none⟩ _ (.string (Qq (o+2))) (by simp)).trans P.out.1) (And.intro ((World.cell?_setCell_other L ⟨b,c *5+2,none⟩ _ (.string (Qq (o+2))) (by simp)).trans P.out.2) (World.cell?_setCell_same L _ (.string (Qq (o+2))) r2)))
   obtain ⟨a3,p3,d3,h3⟩:=C.out.c3 c hlt
   have H3:=Xa h3
   go_wp2_with fail
   generalize L.setCell ⟨b,c *5+2,none⟩ (.string (Qq (o+2)))=W4 at *
   (try rw[show ((o:Int)+2+1)=((o+3:Nat):Int) by omega])
   (try rw[show ((o:Int)+3)=((o+3:Nat):Int) by omega])
   have z:=C.out.lt
   refine (Xb7 lo (KB c) (KN c) p3 (o+3) a3 _ H3.out (by omega) kk.1 (by omega) (by omega)).mono ?_
   rintro e w5 ⟨rfl,bd,be,l,bf⟩
   have B:¬(0<KN c/\b=KB c):=fun ⟨x1,x2⟩=>(C.out.db c hlt).1 x1 x2.symm
   have g:=Xa (C.out.keys hlt l be)
   have bg:=Xa (bb.out.trans (Turns.only l z B (fun x h=>Or.inl h)))
   have bh:=Xa (bc.out.trans bf)
   have D:=Xa (And.intro ((l.cell z B).trans G.out.1) (And.intro ((l.cell z B).trans G.out.2.1) (And.intro ((l.cell z B).trans G.out.2.2) ((l.cell z B).trans d3))))
   have bi:=Xa bd
   obtain ⟨a4,p4,d4,h4⟩:=g.out.c4 c hlt
   have H4:=Xa h4
   have d:=g.out.lt
   go_wp2_with fail
   (try rw[show ((o:Int)+3+(KN c:Int))=((o+3+KN c:Nat):Int) by omega])
   refine (Xct lo (KI c) (IN c) p4 (o+3+KN c) a4 _ H4.out (by omega) kk.2 (by omega)).mono ?_
   rintro e w6 ⟨rfl,bj,bk,f,bl⟩
   have s:¬(0<IN c/\b=KI c):=fun ⟨x1,x2⟩=>(g.out.db c hlt).2 x1 x2.symm
   have bm:=Xa (g.out.kids hlt f bk)
   have R:=Xa (bg.out.trans (Turns.only f d s (fun x h=>Or.inr h)))
   have bn:=Xa (bh.out.trans bl)
   have bo:Hid (HNode w6 b c (KN c) (IN c) (KB c) (KI c) o):=by
    have z6:=f.1
    refine ⟨by omega,(f.cell d s).trans D.out.1,(f.cell d s).trans D.out.2.1,(f.cell d s).trans D.out.2.2.1,⟨a3,p3,(f.cell d s).trans D.out.2.2.2,fun hp=> ?_⟩,⟨a4,p4,(f.cell d s).trans d4,fun hp=> ?_⟩⟩
    ·have:=g.out.kr hlt hp
     exact ⟨(H3.out hp).1,by omega,fun j hj=>(f.cell this.2.1 (fun ⟨x1,x2⟩=>g.out.dki c c hlt hlt hp x1 x2)).trans (bi.out j hj)⟩
    ·have:=g.out.ir hlt hp
     exact ⟨(H4.out hp).1,by omega,bj⟩
   go_wp2_with fail
   go_roundw
   case rel=>
    refine ⟨c+1,by omega,by rw[T.out];first|rfl|go_num|simp,by go_num,fun _=>bm.out,fun i hi=> ?_,HO.out.trans (R.out.marked hlt),bn.out⟩
    by_cases e:i=c
    ·subst e;rw[V.out];exact bo.out
    ·exact Turns.node F.out hlt (by omega) R.out (HD.out i (by omega))
   case measure=>simp[intOf];omega
  ·obtain rfl:c=n:=by omega
   go_wp2_with fail
   go_ret
   exact ⟨rfl,HD.out,HO.out,J.out⟩


def Yq (f:Nat->Int) (j:Nat):Value:= .int .i64 (f j)
theorem Xca {w:World} {g t N:Nat} {f:Nat->Int} (h:w.rowIs g t N (Yq f)) (x y:Nat) (u v:Int):((w.setCell ⟨g,x,none⟩ (.int .i64 u)).setCell ⟨g,y,none⟩ (.int .i64 v)).rowIs g t N (Yq (fun p=>if p=y then v else if p=x then u else f p)):=by
 refine ((h.set x _).set y _).congr fun p _=> ?_
 unfold Yq
 by_cases e1:p=y
 ·simp[e1]
 ·by_cases e2:p=x
  ·subst e2;simp[e1]
  ·simp[e1,e2]
def Sw (g:Nat) (w w':World):Prop:=w'.os=w.os/\w'.tape=w.tape/\w'.output=w.output/\Only (· =g) w w'
theorem Sw.refl (g:Nat) (w:World):Sw g w w:=⟨rfl,rfl,rfl,Only.refl _ _⟩
theorem Sw.trans {g:Nat} {a b c:World} (h:Sw g a b) (k:Sw g b c):Sw g a c:=⟨k.1.trans h.1,k.2.1.trans h.2.1,k.2.2.1.trans h.2.2.1,h.2.2.2.trans k.2.2.2⟩
theorem Sw.set {g:Nat} {a b:World} (h:Sw g a b) (o:Nat) (v:Value):Sw g a (b.setCell ⟨g,o,none⟩ v):=by
 have c:Below g b (b.setCell ⟨g,o,none⟩ v):=(Below.refl _ _).setCell (p:=⟨g,o,none⟩) (Nat.le_refl _) v
 exact h.trans ⟨c.os,c.tape,c.output,Only.set (P:=(· =g)) b rfl v⟩
theorem Sw.drew {g:Nat} {a b:World} (h:Sw g a b):Sw g a b.drew:=⟨h.1,h.2.1,h.2.2.1,h.2.2.2⟩
theorem Sw.drewN {g:Nat} {a b:World} (h:Sw g a b) (n:Nat):Sw g a (b.drewN n):=⟨h.1,h.2.1,h.2.2.1,h.2.2.2⟩
theorem Sw.below {g B:Nat} {a b:World} (h:Sw g a b) (hB:B<=g) (hs:B<=a.heap.size):Below B a b:=⟨h.1,h.2.1,h.2.2.1,h.2.2.2.1,fun k hk=>h.2.2.2.2 k (by omega) (by omega)⟩
theorem Xat (g N cap:Nat) (f:Nat->Int) (a b n:Nat) (cf:Value) (w:World) (h:w.rowIs g 3 N (Yq f)) (ha:a+n<=N) (hb:b+n<=N) (hd:a+n<=b\/b+n<=a) (hN:N<=1099511627776):
  Calls Tryz.prog 219 #[.slice (some ⟨g,0,none⟩) N cap, .int .i64 a, .int .i64 b, .int .i64 n,cf] w fun e w'=>e= .returned (.tuple #[])/\w'.rowIs g 3 N (Yq (swp a b n f))/\Sw g w w':=by
 have y:=Xa h
 clear h
 go_enter Tryz.func219,Tryz.ntmps219
 go_wp2_with fail
 go_loopw [10] (fun i wr=>∃k:Nat,k<=n/\i= .int .i64 k/\wr.rowIs g 3 N (Yq (swp a b k f))/\Sw g w wr) (fun i _=>n-(intOf i).toNat)
 case atStart=>exact ⟨0,Nat.zero_le _,rfl,y.out.congr fun j _=>by unfold Yq;rw[X0o],Sw.refl _ _⟩
 case round=>
  obtain ⟨k,F,rfl,c,d⟩:=hrel
  by_cases hlt:k<n
  ·have c1:=c.cell (i:=a+k) (by omega)
   have z:=c.cell (i:=b+k) (by omega)
   have G:=c.frozen (a+k)
   have J:=c.frozen (b+k)
   have B:a+k<N:=by omega
   have C:b+k<N:=by omega
   have o:(a:Int)+(k:Int)<(N:Int):=by omega
   have q:(b:Int)+(k:Int)<(N:Int):=by omega
   have L:((a:Int)+(k:Int)).toNat=a+k:=by omega
   have M:((b:Int)+(k:Int)).toNat=b+k:=by omega
   unfold Yq at c1 z
   have s:a+k≠b+k:=by omega
   have t:b+k≠a+k:=by omega
   have l:Hid (((wr.setCell ⟨g,a+k,none⟩ (.int .i64 (swp a b k f (b+k)))).setCell ⟨g,b+k,none⟩ (.int .i64 (swp a b k f (a+k)))).drew.rowIs g 3 N (Yq (swp a b (k+1) f))):=by
    refine (Xca c (a+k) (b+k) (swp a b k f (b+k)) (swp a b k f (a+k))).congr fun p _=> ?_
    unfold Yq
    rw[X0p (by omega)]
   have D:=Xa ((d.set (a+k) (.int .i64 (swp a b k f (b+k)))).set (b+k) (.int .i64 (swp a b k f (a+k)))).drew
   clear c d
   go_wp2_with fail
   go_region
   all_goals
    go_wp2_with fail
    go_roundw
    case rel=>exact ⟨k+1,by omega,by go_num,l.out,D.out⟩
    case measure=>simp[intOf];omega
  ·obtain rfl:k=n:=by omega
   go_wp2_with fail
   refine ⟨rfl, .tuple #[],results_none rfl _ _ _,rfl,c,d⟩
theorem Xud (g N cap:Nat) (f:Nat->Int) (a m b:Nat) (cf:Value) (w:World) (h:w.rowIs g 3 N (Yq f)) (h1:a<m) (h2:m<b) (h3:b<=N) (hN:N<=1099511627776):
  Calls Tryz.prog 218 #[.slice (some ⟨g,0,none⟩) N cap, .int .i64 a, .int .i64 m, .int .i64 b,cf] w fun e w'=>e= .returned (.tuple #[])/\w'.rowIs g 3 N (Yq (rot a m b f))/\Sw g w w':=by
 have T:=Xa h
 clear h
 have V:(m:Int)-(a:Int)=((m-a:Nat):Int):=by omega
 have X:(b:Int)-(m:Int)=((b-m:Nat):Int):=by omega
 go_enter Tryz.func218,Tryz.ntmps218
 go_wp2_with fail
 go_loopw [10,11] (fun vi vj wr=>∃(s i j:Nat) (d:Nat->Int),vi= .int .i64 i/\vj= .int .i64 j/\0<i/\0<j/\Hid (s+i=m)/\i<=m/\m+j<=b/\Hid (∀p,rot s (s+i) (s+i+j) d p=rot a m b f p)/\wr.rowIs g 3 N (Yq d)/\Sw g w wr) (fun vi vj _=>(intOf vi).toNat+(intOf vj).toNat)
 case atStart=>exact ⟨a,m-a,b-m,f,by go_num,by go_num,by omega,by omega,(by rw[Hid];omega),by omega,by omega,(fun p=>by rw[show a+(m-a)=m by omega,show m+(b-m)=b by omega]),T.out,Sw.refl _ _⟩
 case round=>
  obtain ⟨s,i,j,d,rfl,rfl,P,R,l,G,J,L,z,F⟩:=hrel
  have o:=Xa z
  have B:=Xa F
  clear z F V X
  have es:(m:Int)-(i:Int)=(s:Int):=by have:=l.out;omega
  by_cases e:i=j
  ·have q:((i:Int) !=(j:Int))=false:=by rw[e];simp
   have C:=Xa e
   clear e
   go_wp2_with fail
   refine (Xat g N cap d s m i cf wr o.out (by have:=l.out;omega) (by have:=C.out;omega) (Or.inl (by have:=l.out;omega)) hN).mono ?_
   rintro e S ⟨rfl,t,y⟩
   go_wp2_with fail
   refine ⟨rfl, .tuple #[],results_none rfl _ _ _,rfl,t.congr fun p _=> ?_,B.out.trans y⟩
   unfold Yq
   rw[<-L.out p,<-l.out,<-C.out,X0s]
  ·have q:((i:Int) !=(j:Int))=true:=by rw[bne_iff_ne];omega
   have C:=Xa e
   clear e
   by_cases c:j<i
   ·have Y:(j:Int)<(i:Int):=by omega
    have M:(i:Int)-(j:Int)=((i-j:Nat):Int):=by omega
    have D:Hid (∀p,rot (s+j) (s+j+(i-j)) (s+j+(i-j)+j) (swp s m j d) p=rot a m b f p):=fun p=>by
     rw[<-L.out p,<-X0q c R d p,<-l.out,show s+j+(i-j)=s+i by omega]
    go_wp2_with fail
    refine (Xat g N cap d s m j cf wr o.out (by have:=l.out;omega) (by omega) (Or.inl (by have:=l.out;omega)) hN).mono ?_
    rintro e S ⟨rfl,t,y⟩
    go_wp2_with fail
    go_roundw
    case rel=>exact ⟨s+j,i-j,j,swp s m j d,by go_num,by go_num,by omega,R,(by have:=l.out;rw[Hid];omega),by omega,J,D,t,B.out.trans y⟩
    case measure=>simp[intOf];omega
   ·have Y:¬(j:Int)<(i:Int):=by omega
    have M:(j:Int)-(i:Int)=((j-i:Nat):Int):=by have:=C.out;omega
    have Z:(m:Int)+(j:Int)-(i:Int)=((s+j:Nat):Int):=by have:=l.out;omega
    have D:Hid (∀p,rot s (s+i) (s+i+(j-i)) (swp s (s+j) i d) p=rot a m b f p):=fun p=>by
     have:=C.out
     rw[<-L.out p,<-X0r (show i<j by omega) P d p,show s+i+(j-i)=s+j by omega]
    go_wp2_with fail
    refine (Xat g N cap d s (s+j) i cf wr o.out (by have:=l.out;omega) (by have:=l.out;omega) (Or.inl (by have:=C.out;omega)) hN).mono ?_
    rintro e S ⟨rfl,t,y⟩
    go_wp2_with fail
    go_roundw
    case rel=>exact ⟨s,i,j-i,swp s (s+j) i d,by go_num,by go_num,P,by have:=C.out;omega,l,G,by omega,D,t,B.out.trans y⟩
    case measure=>simp[intOf];omega


def Xii (g N:Nat) (w0:World) (c1 c2:Value) (cf:Int->Int->Int):Prop:=
 ∀W,Sw g w0 W->∀x y:Int,0<=x->x<N->0<=y->y<N->Calls Tryz.prog 213 #[.int .i64 x, .int .i64 y,c1,c2] W fun e W'=>e= .returned (.int .i64 (cf x y))/\∃n,W'=W.drewN n
def U4 (f:Nat->Int) (N:Nat):Prop:=∀p,p<N->0<=f p/\f p<N
theorem Merged.vals {R:Int->Int->Prop} {f f':Nat->Int} {a b N:Nat} (h:Merged R f f' a b) (hv:U4 f N) (hb:b<=N):U4 f' N:=fun p hp=>by
 by_cases c:a<=p/\p<b
 ·obtain ⟨q,g,j,d⟩:=h.inn p c.1 c.2
  rw[d];exact hv q (by omega)
 ·rw[h.out p (by omega)];exact hv p hp
theorem Xn8 {s m e N:Nat} {f:Nat->Int} (hv:U4 f N) (h1:s<=m) (h2:m<=e) (h3:e<=N):U4 (rot s m e f) N:=fun p hp=>by
 obtain ⟨q,d,b,c⟩:=Xf4 (f:=f) h1 h2 (Nat.zero_le s) h3 p (Nat.zero_le _) hp
 rw[c];exact hv q b
structure Asked (R:Int->Int->Prop) (cf:Int->Int->Int) (g N:Nat) (w0:World) (c1 c2:Value) (f:Nat->Int) (a m b:Nat) (w:World):Prop where
 tot:Tot R
 cmp:Xii g N w0 c1 c2 cf
 cr:∀x y:Int,x<y->(cf y x<0↔R y x)
 row:w.rowIs g 3 N (Yq f)
 sw:Sw g w0 w
 val:U4 f N
 am:a<m
 mb:m<b
 bN:b<=N
 NN:N<=1099511627776
 r1:Z0 R f a m
 r2:Z0 R f m b
 cx:Xf3 f a m b
theorem Xt5 (R:Int->Int->Prop) (cf:Int->Int->Int) (g N cap:Nat) (w0:World) (c1 c2:Value) (f:Nat->Int) (a m b:Nat) (w:World) (h:Asked R cf g N w0 c1 c2 f a m b w) (hm:m=a+1):
  Calls Tryz.prog 217 #[.slice (some ⟨g,0,none⟩) N cap, .int .i64 a, .int .i64 m, .int .i64 b, .func (.func 213) #[] #[c1,c2]] w fun e w'=>e= .returned (.tuple #[])/\∃f',w'.rowIs g 3 N (Yq f')/\Merged R f f' a b/\Sw g w0 w':=by
 have H:=Xa h
 have bc:=h.mb
 have bd:=h.bN
 have be:=h.NN
 clear h
 have ba:((m:Int)-(a:Int)==1)=true:=by rw[beq_iff_eq];omega
 have bf:a+1<=m:=by omega
 have bg:m<=a+1:=by omega
 have t:=Xa hm
 clear hm
 go_enter Tryz.func217,Tryz.ntmps217
 go_wp2_with fail
 go_loopw [10,11] (fun vi vj wr=>∃i j:Nat,vi= .int .i64 i/\vj= .int .i64 j/\m<=i/\i<=j/\j<=b/\Hid (∀q,m<=q->q<i->R (f q) (f a))/\Hid (∀q,j<=q->q<b->R (f a) (f q))/\wr.rowIs g 3 N (Yq f)/\Sw g w0 wr) (fun vi vj _=>(intOf vj).toNat-(intOf vi).toNat)
 case atStart=>exact ⟨m,b,rfl,rfl,Nat.le_refl _,by omega,Nat.le_refl _,fun q h1 h2=>absurd h1 (by omega),fun q h1 h2=>absurd h1 (by omega),H.out.row,H.out.sw⟩
 case round=>
  obtain ⟨i,j,rfl,rfl,y,bh,z,HL,HG,c,d⟩:=hrel
  by_cases hlt:i<j
  case pos=>
   obtain ⟨x,hx⟩:∃x:Nat,x=(i+j)/2:=⟨_,rfl⟩
   have x1:i<=x:=by omega
   have x2:x<j:=by omega
   have p0:((i:Int)+(j:Int))/2=(x:Int):=by omega
   have B:x<N:=by omega
   have C:a<N:=by omega
   have d1:=c.cell B
   have d2:=c.cell C
   unfold Yq at d1 d2
   have v1:=H.out.val x B
   have v2:=H.out.val a C
   obtain ⟨D,F⟩:=v1
   obtain ⟨G,J⟩:=v2
   have L:=Xa (H.out.cr (f a) (f x) (H.out.cx a x (Nat.le_refl _) (by omega) (by omega) (by omega)))
   have T:=Xa (H.out.cx a x (Nat.le_refl _) (by omega) (by omega) (by omega))
   have HF:=Xa (X4d H.out.tot (a:=a) H.out.r2 (h:=x) (by omega) (by omega))
   have l:=Xa c
   have o:=Xa d
   clear hx c d
   by_cases hc:cf (f x) (f a)<0
   ·have V:Hid (∀q,m<=q->q<x+1->R (f q) (f a)):=fun q h1 h2=>HF.out.1 (L.out.1 hc) q h1 (by omega)
    go_wp2_with fail
    go_quiet ((go_at_call 213;exact Calls.quiet_of (H.out.cmp _ (o.out.drewN _) (f x) (f a) D F G J)))
    go_wp2_with fail
    go_roundw
    case rel=>exact ⟨x+1,j,by go_num,rfl,by omega,by omega,z,V,HG,l.out,o.out.drewN nq⟩
    case measure=>simp[intOf];omega
   ·have X:Hid (∀q,x<=q->q<b->R (f a) (f q)):=fun q h1 h2=>HF.out.2 (Xcb H.out.tot T.out (fun hr=>hc (L.out.2 hr))) q h1 h2
    go_wp2_with fail
    go_quiet ((go_at_call 213;exact Calls.quiet_of (H.out.cmp _ (o.out.drewN _) (f x) (f a) D F G J)))
    go_wp2_with fail
    go_roundw
    case rel=>exact ⟨i,x,rfl,rfl,y,x1,by omega,HL,X,l.out,o.out.drewN nq⟩
    case measure=>simp[intOf];omega
  case neg=>
  obtain rfl:i=j:=by omega
  have HM:Hid (Merged R f (rot a m i f) a b):=X0e (by omega) y z H.out.r1 H.out.r2 (fun p q h1 h2 h3 h4=>by
    obtain rfl:p=a:=by omega
    exact HL.out q h3 h4) (fun p q h1 h2 h3 h4=>by
    obtain rfl:p=a:=by omega
    exact HG.out q h3 h4)
  have ei:(i:Int)-1=((i-1:Nat):Int):=by omega
  obtain ⟨s,Y⟩:∃s,i=s+1:=⟨i-1,by omega⟩
  subst Y
  have bi:((s+1:Nat):Int)-1=(s:Int):=by omega
  clear ei
  obtain ⟨W0,rfl⟩:∃W0,W0=wr:=⟨_,rfl⟩
  have l:=Xa c
  have o:=Xa d
  clear c d hlt
  go_wp2_with fail
  go_loopw [13] (fun vk wr=>∃k:Nat,vk= .int .i64 k/\a<=k/\k<=s/\wr.rowIs g 3 N (Yq (rot a m (k+1) f))/\Sw g w0 wr) (fun vk _=>s-(intOf vk).toNat)
  case atStart=>exact ⟨a,rfl,Nat.le_refl _,by omega,l.out.congr fun p _=>by unfold Yq;rw[Xdo (Or.inr t.out) (by omega) (by omega)],o.out⟩
  case round=>
   obtain ⟨k,rfl,Z,bj,c,d⟩:=hrel
   by_cases hlt:k<s
   ·have q1:=c.cell (i:=k) (by omega)
    have q2:=c.cell (i:=k+1) (by omega)
    have f1:=c.frozen k
    have f2:=c.frozen (k+1)
    unfold Yq at q1 q2
    have bk:k<N:=by omega
    have bb:k+1<N:=by omega
    have t1:((k:Int)+1).toNat=k+1:=by omega
    have b1:(k:Int)+1<(N:Int):=by omega
    obtain ⟨u,P⟩:∃u,rot a m (k+1) f k=u:=⟨_,rfl⟩
    obtain ⟨v,S⟩:∃v,rot a m (k+1) f (k+1)=v:=⟨_,rfl⟩
    rw[P] at q1
    rw[S] at q2
    have M:Hid (((wr.setCell ⟨g,k,none⟩ (.int .i64 v)).setCell ⟨g,k+1,none⟩ (.int .i64 u)).drew.rowIs g 3 N (Yq (rot a m (k+1+1) f))):=by
     refine (Xca c k (k+1) v u).congr fun p _=> ?_
     unfold Yq
     rw[t.out] at P S|-;rw[<-X4l Z f p,P,S]
    have HO:=Xa ((d.set k (.int .i64 v)).set (k+1) (.int .i64 u)).drew
    clear c d P S
    go_wp2_with fail
    go_region
    all_goals
     go_wp2_with fail
     go_roundw
     case rel=>exact ⟨k+1,by go_num,by omega,by omega,M.out,HO.out⟩
     case measure=>simp[intOf];omega
   ·obtain rfl:k=s:=by omega
    go_wp2_with fail
    refine ⟨rfl, .tuple #[],results_none rfl _ _ _,rfl,_,c,HM.out,d⟩
end Go.Proofs.YtdjddneidbddpaaGreatDoor
