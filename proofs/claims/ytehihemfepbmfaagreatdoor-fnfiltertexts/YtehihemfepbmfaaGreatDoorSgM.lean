import Derived.Test.YtehihemfepbmfaaGreatDoorSInt
import Derived.Test.YtehihemfepbmfaaGreatDoorFtA
import Derived.Test.YtehihemfepbmfaaGreatDoorFrM
import Derived.Test.YtehihemfepbmfaaGreatDoorGupN
import Derived.Test.YtehihemfepbmfaaGreatDoorUneP
namespace Go.Proofs.YtehihemfepbmfaaGreatDoor
set_option linter.unusedSectionVars false
set_option maxHeartbeats 3200000
open Go.RowKit
set_option linter.unusedSimpArgs false
set_option linter.unusedVariables false
theorem Xt0:∀n:Fin 256,(Xb4 n.val=true∧∃i:Fin 2,Go.Lib.indexByte [10,32] (UInt8.ofNat n.val)=(i.val:Int))∨(Xb4 n.val=false∧Go.Lib.indexByte [10,32] (UInt8.ofNat n.val)= -1):=by decide+kernel
theorem Xw5 (c:UInt8):(Xb4 c.toNat=true∧∃i:Nat,Go.Lib.indexByte [10,32] c=(i:Int))∨(Xb4 c.toNat=false∧Go.Lib.indexByte [10,32] c= -1):=by
 have h:=Xt0 ⟨c.toNat,c.toNat_lt⟩
 have e:UInt8.ofNat c.toNat=c:=by simp
 simp only[e] at h
 rcases h with ⟨h1,i,h2⟩|h
 ·exact .inl ⟨h1,i.val,h2⟩
 ·exact .inr h
set_option maxRecDepth 100000 in
theorem Xhh {X:Nat→Option Value} {rb p:Nat} {s:ByteArray} {w:World} (h:SfAt X w rb s p) (hX:X 2=some (.string ⟨#[10,32]⟩)) (hs:s.size≤1048576):
  Calls Tryz.prog 74 #[.pointer (some ⟨rb,0,none⟩)] w fun e w'=>e= .returned (.tuple #[])∧SfAt X w' rb s (skF s.data.toList p)∧But rb w w':=by
 have H:=Xa h
 clear h
 go_enter Tryz.func74,Tryz.ntmps74
 go_wp2_with fail
 go_loopw [] (fun wr=>∃q,SfAt X wr rb s q∧skF s.data.toList q=skF s.data.toList p∧But rb w wr) (fun wr=>s.size-placeOf wr rb)
 case atStart=>exact ⟨p,H.out,rfl,But.refl _ _⟩
 case round=>
  obtain ⟨q,hsr,hsk,hbt⟩:=hrel
  have HS:=Xa hsr
  have HK:=Xa hsk
  have HBT:=Xa hbt
  have h1:=hsr.br.src
  have h2:=hsr.br.place
  have h3:=hsr.br.free
  have h4:=hsr.br.lt
  have h5:=hsr.br.le
  have h6:=(hsr.bl 2 (by decide)).trans hX
  clear hsr hsk hbt
  by_cases hq:q<s.size
  ·have hq':(q:Int)<(s.size:Int):=by omega
   have HB:=Xa (byS hq)
   rcases Xw5 s[q] with ⟨hb,i,hi⟩|⟨hb,hi⟩
   ·have HIX:Hid (∀w,Calls Tryz.prog 109 #[.string ⟨#[10,32]⟩, .int .u8 (s[q].toNat:Int)] w fun e w'=>e= .returned (.int .i64 (i:Int))∧w'=w):=fun w=>by
     have:=Vl ⟨#[10,32]⟩ s[q] w
     rw[show (⟨#[10,32]⟩:ByteArray).data.toList= [10,32] from rfl,hi] at this
     exact this
    have HNX:Hid (skF s.data.toList q=skF s.data.toList (q+1)):=Kb (by rw[Xm];exact hq) (by rw[←HB.out];exact hb)
    clear hi hb
    go_wp2_with fail
    go_quiet ((go_at_call 109;exact Calls.quiet_of_same (HIX.out _)))
    have HD:=Xa (Xq (w:=wr) nq)
    have HR:=Xa (HS.out.below HD.out)
    have k1:=HR.out.br.src
    have k2:=HR.out.br.place
    have k3:=HR.out.br.free
    generalize wr.drewN nq=W1 at HR HD k1 k2 k3⊢
    clear nq h1 h2 h3 h6
    go_wp2_with fail
    go_roundw
    case rel=>
     have e:((q:Int)+1)=((q+1:Nat):Int):=by omega
     refine ⟨q+1, ?_,by rw[←HNX.out];exact HK.out,(HBT.out.trans (But.of_below HD.out)).trans (But.of_set _ _)⟩
     rw[e]
     exact HR.out.to hq
    case measure=>
     have e:((q:Int)+1)=((q+1:Nat):Int):=by omega
     rw[HS.out.placeOf,e,(HR.out.to hq).placeOf]
     omega
   ·have HIX:Hid (∀w,Calls Tryz.prog 109 #[.string ⟨#[10,32]⟩, .int .u8 (s[q].toNat:Int)] w fun e w'=>e= .returned (.int .i64 (-1))∧w'=w):=fun w=>by
     have:=Vl ⟨#[10,32]⟩ s[q] w
     rw[show (⟨#[10,32]⟩:ByteArray).data.toList= [10,32] from rfl,hi] at this
     exact this
    have HNX:Hid (skF s.data.toList q=q):=Q1 (fun e=>by rw[←HB.out,hb] at e;cases e.2)
    clear hi hb
    go_wp2_with fail
    go_quiet ((go_at_call 109;exact Calls.quiet_of_same (HIX.out _)))
    have HD:=Xa (Xq (w:=wr) nq)
    go_wp2_with fail
    go_end0
    exact ⟨rfl,by rw[←HK.out,HNX.out];exact HS.out.below HD.out,HBT.out.trans (But.of_below HD.out)⟩
  ·obtain rfl:q=s.size:=by omega
   have HNX:Hid (skF s.data.toList s.size=s.size):=Xbc (by rw[Xm];omega)
   go_wp2_with fail
   go_quiet (fail)
   have HD:=Xa (Xq (w:=wr) nq)
   go_wp2_with fail
   go_end0
   exact ⟨rfl,by rw[←HK.out,HNX.out];exact HS.out.below HD.out,HBT.out.trans (But.of_below HD.out)⟩
set_option maxRecDepth 100000 in
theorem Xhi {X:Nat→Option Value} {rb p c:Nat} {s:ByteArray} {w:World} (h:SfAt X w rb s p) (hX:X 2=some (.string ⟨#[10,32]⟩)) (hs:s.size≤1048576) (hc:Xe s.data.toList p c=true):
  Calls Tryz.prog 174 #[.pointer (some ⟨rb,0,none⟩), .int .u8 (c:Int)] w fun e w'=>e= .returned (.bool true)∧SfAt X w' rb s (skF s.data.toList (p+1))∧But rb w w':=by
 have H:=Xa h
 obtain ⟨hp,hb⟩:=Xl.1 hc
 rw[Xm] at hp
 have HP:=Xa (Xax h.br hs)
 rw[hb] at HP
 have hne:((c:Int) !=(c:Int))=false:=by simp
 clear h hc hb
 go_enter Tryz.func174,Tryz.ntmps174
 go_wp2_with fail
 refine HP.out.mono ?_
 rintro e w1 ⟨rfl,hb1⟩
 have HB1:=Xa hb1
 have HR:=Xa (H.out.below hb1)
 have k2:=HR.out.br.place
 have k3:=HR.out.br.free
 have k4:=HR.out.br.lt
 have e1:((p:Int)+1)=((p+1:Nat):Int):=by omega
 obtain ⟨W2,hW2⟩:∃W2,w1.setCell ⟨rb,1,none⟩ (.int .i64 ((p:Int)+1))=W2:=⟨_,rfl⟩
 have HR2:Hid (SfAt X W2 rb s (p+1)):=by rw[Hid,←hW2,e1];exact HR.out.to (by omega)
 have HB2:Hid (But rb w W2):=(But.of_below HB1.out).trans (by rw[←hW2];exact But.of_set _ _)
 have HSK:=Xa (Xhh HR2.out hX hs)
 clear hb1 e1
 go_wp2_with fail
 refine HSK.out.mono ?_
 rintro e w3 ⟨rfl,hr3,hb3⟩
 have HR3:=Xa hr3
 have HB3:=Xa (HB2.out.trans hb3)
 clear hr3 hb3
 go_wp2_with fail
 go_ret
 exact ⟨rfl,HR3.out,HB3.out⟩
set_option maxRecDepth 100000 in
theorem Xjm {X:Nat→Option Value} {rb p c:Nat} {s:ByteArray} {w:World} (h:SfAt X w rb s p) (hX:X 2=some (.string ⟨#[10,32]⟩)) (hs:s.size≤1048576) (hc0:0<c) (hc:Xe s.data.toList p c=false):
  Calls Tryz.prog 174 #[.pointer (some ⟨rb,0,none⟩), .int .u8 (c:Int)] w fun e w'=>e= .returned (.bool false)∧SfAt X w' rb s p∧But rb w w':=by
 have H:=Xa h
 have hb:Xh s.data.toList p≠c:=fun e=>by
  by_cases hp:p<s.data.toList.length
  ·exact X7.1 hc ⟨hp,e⟩
  ·rw[Q2 (by omega)] at e;omega
 have HP:=Xa (Xax h.br hs)
 obtain ⟨b,hbb⟩:∃b,Xh s.data.toList p=b:=⟨_,rfl⟩
 rw[hbb] at hb HP
 have hne:((b:Int) !=(c:Int))=true:=by simp;omega
 have hne2:¬(b:Int)=(c:Int):=by omega
 clear h hc hbb
 go_enter Tryz.func174,Tryz.ntmps174
 go_wp2_with fail
 refine HP.out.mono ?_
 rintro e w1 ⟨rfl,hb1⟩
 have HB1:=Xa hb1
 clear hb1
 go_wp2_with fail
 go_ret
 exact ⟨rfl,H.out.below HB1.out,But.of_below HB1.out⟩
set_option maxRecDepth 100000 in
theorem Xqz {X:Nat→Option Value} {rb p c:Nat} {s:ByteArray} {w:World} (h:SfAt X w rb s p) (hX:X 2=some (.string ⟨#[10,32]⟩)) (hs:s.size≤1048576) (hc:Xe s.data.toList p c=true):
  Calls Tryz.prog 176 #[.pointer (some ⟨rb,0,none⟩), .int .u8 (c:Int)] w fun e w'=>e= .returned (.tuple #[])∧SfAt X w' rb s (skF s.data.toList (p+1))∧But rb w w':=by
 have HT:=Xa (Xhi h hX hs hc)
 clear h hc
 go_enter Tryz.func176,Tryz.ntmps176
 go_wp2_with fail
 refine HT.out.mono ?_
 rintro e w1 ⟨rfl,h1,h2⟩
 have H1:=Xa h1
 have H2:=Xa h2
 clear h1 h2
 go_wp2_with fail
 go_end0
 exact ⟨rfl,H1.out,H2.out⟩
set_option maxRecDepth 100000 in
theorem Xt1 {X:Nat→Option Value} {rb p c:Nat} {s:ByteArray} {w:World} (h:SfAt X w rb s p) (hX:X 2=some (.string ⟨#[10,32]⟩)) (hs:s.size≤1048576) (hc0:0<c) (hc:Xe s.data.toList p c=false):
  Calls Tryz.prog 176 #[.pointer (some ⟨rb,0,none⟩), .int .u8 (c:Int)] w fun e w'=>e=gup∧But rb w w':=by
 have HT:=Xa (Xjm h hX hs hc0 hc)
 clear h hc
 go_enter Tryz.func176,Tryz.ntmps176
 go_wp2_with fail
 refine HT.out.mono ?_
 rintro e w1 ⟨rfl,h1,h2⟩
 have H2:=Xa h2
 clear h1 h2
 go_wp2_with fail
 exact ⟨rfl,rfl,H2.out⟩

structure LB (rb base:Nat) (Z:Nat→Prop) (w w':World):Prop where
 bf:ButF rb base w w'
 av:∀c,Z c→c<w.heap.size→c≠rb→w'.heap[c]? =w.heap[c]?
theorem LB.size {rb base:Nat} {Z:Nat→Prop} {a b:World} (h:LB rb base Z a b):a.heap.size≤b.heap.size:=h.bf.size
theorem LB.refl (rb base:Nat) (Z:Nat→Prop) (w:World):LB rb base Z w w:=⟨ButF.refl _ _ _,fun _ _ _ _=>rfl⟩
theorem LB.trans {rb base:Nat} {Z:Nat→Prop} {a b c:World} (h:LB rb base Z a b) (k:LB rb base Z b c):LB rb base Z a c:=
 ⟨h.bf.trans k.bf,fun x hz hx hn=>(k.av x hz (Nat.lt_of_lt_of_le hx h.bf.size) hn).trans (h.av x hz hx hn)⟩
theorem LB.of_but {rb base:Nat} {Z:Nat→Prop} {a b:World} (h:But rb a b):LB rb base Z a b:=⟨.of_but h,fun x _ hx hn=>h.block x hx hn⟩
theorem LB.of_below {rb base:Nat} {Z:Nat→Prop} {a b:World} (h:Below a.heap.size a b):LB rb base Z a b:= .of_but (But.of_below h)
theorem LB.of_set {rb base:Nat} {Z:Nat→Prop} {a:World} (o:Nat) (u:Value):LB rb base Z a (a.setCell ⟨rb,o,none⟩ u):= .of_but (But.of_set o u)
theorem LB.of_grown {rb base n:Nat} {Z:Nat→Prop} {a b:World} {v:Value} {xs:List Value} (h:a.ownsRow base 51 6 v n xs) (hz:∀x,v.ownBlock=some x→¬Z x) (hg:a.grownBy b v.ownBlock):LB rb base Z a b:=
 ⟨.of_grown h hg,fun x hx hl _=>hg.block x hl (fun e=>hz x e.symm hx)⟩
theorem LB.mono {rb base:Nat} {Z Z':Nat→Prop} {a b:World} (h:LB rb base Z a b) (hz:∀x,Z' x→Z x):LB rb base Z' a b:=⟨h.bf,fun x hx=>h.av x (hz x hx)⟩
theorem LB.own {rb base b0 e s n:Nat} {Z:Nat→Prop} {a b:World} {v:Value} {xs:List Value} (h:LB rb base Z a b) (hv:a.ownsRow b0 e s v n xs) (he:e≠51) (hb:rb<b0):b.ownsRow b0 e s v n xs:=h.bf.own hv he hb
theorem LB.below {rb base:Nat} {Z:Nat→Prop} {a b:World} (h:LB rb base Z a b) (hr:base≤a.heap.size):Below (min rb base) a b:=h.bf.below hr
structure LfAt (w:World) (rb base:Nat) (Z:Nat→Prop) (s:ByteArray) (p:Nat) (bad:Bool) (fs:List FN):Prop where
 blk:∃v,w.heap[rb]? =some (.cells #[.string s, .int .i64 p, .bool bad,v] 77 (0,0))∧FRow base Z w v fs∧∀x,v.ownBlock=some x→¬Z x
 le:p≤s.size
 rb_lt:rb<base
 sz:base≤w.heap.size
 zb:∀x,Z x→x<w.heap.size
theorem LfAt.lt {w:World} {rb base:Nat} {Z:Nat→Prop} {s:ByteArray} {p:Nat} {bad:Bool} {fs:List FN} (h:LfAt w rb base Z s p bad fs):rb<w.heap.size:=by have:=h.rb_lt;have:=h.sz;omega
theorem LfAt.cells {w:World} {rb base:Nat} {Z:Nat→Prop} {s:ByteArray} {p:Nat} {bad:Bool} {fs:List FN} (h:LfAt w rb base Z s p bad fs):w.cell? ⟨rb,0,none⟩=some (.string s)∧w.cell? ⟨rb,1,none⟩=some (.int .i64 p)∧w.cell? ⟨rb,2,none⟩=some (.bool bad):=by
 obtain ⟨v,hb,_⟩:=h.blk
 exact ⟨Xar hb rfl,Xar hb rfl,Xar hb rfl⟩
theorem LfAt.free {w:World} {rb base:Nat} {Z:Nat→Prop} {s:ByteArray} {p:Nat} {bad:Bool} {fs:List FN} (h:LfAt w rb base Z s p bad fs) (i:Nat):w.frozen? ⟨rb,i,none⟩=false:=by
 obtain ⟨v,hb,_⟩:=h.blk
 exact Lib.frozen_of_heap hb i
theorem LfAt.fresh {w w':World} {rb base:Nat} {Z Z':Nat→Prop} {s:ByteArray} {p:Nat} {bad:Bool} {fs:List FN} (h:LfAt w rb base Z s p bad fs) (hb:Below w.heap.size w w') (hz:∀x,Z' x→Z x∨w.heap.size≤x) (hz2:∀x,Z' x→x<w'.heap.size):LfAt w' rb base Z' s p bad fs:=by
 obtain ⟨v,h1,h2,h3⟩:=h.blk
 refine ⟨⟨v,(hb.block rb h.lt).trans h1,(h2.more (fun x hx=>(hz x hx).elim .inl (fun h=> .inr (.inl h)))).below hb,fun x hx hzx=> ?_⟩,h.le,h.rb_lt,Nat.le_trans h.sz hb.size,hz2⟩
 rcases hz x hzx with h4|h4
 ·exact h3 x hx h4
 ·obtain ⟨C,N,I,hN,_⟩:=h2
  have:=(hN.row.lt x hx).2
  omega
theorem LfAt.below {w w':World} {rb base:Nat} {Z:Nat→Prop} {s:ByteArray} {p:Nat} {bad:Bool} {fs:List FN} (h:LfAt w rb base Z s p bad fs) (hb:Below w.heap.size w w'):LfAt w' rb base Z s p bad fs:=h.fresh hb (fun _ hx=> .inl hx) (fun x hx=>Nat.lt_of_lt_of_le (h.zb x hx) hb.size)
theorem LfAt.setP {w:World} {rb base:Nat} {Z:Nat→Prop} {s:ByteArray} {p q:Nat} {bad:Bool} {fs:List FN} (h:LfAt w rb base Z s p bad fs) (hq:q≤s.size):LfAt (w.setCell ⟨rb,1,none⟩ (.int .i64 q)) rb base Z s q bad fs:=by
 obtain ⟨v,h1,h2,h3⟩:=h.blk
 exact ⟨⟨v,setH h1 _,h2.butF 1 _ h.rb_lt,h3⟩,hq,h.rb_lt,by simpa using h.sz,fun x hx=>by simpa using h.zb x hx⟩
theorem LfAt.setB {w:World} {rb base:Nat} {Z:Nat→Prop} {s:ByteArray} {p:Nat} {bad:Bool} {fs:List FN} (h:LfAt w rb base Z s p bad fs) (x:Bool):LfAt (w.setCell ⟨rb,2,none⟩ (.bool x)) rb base Z s p x fs:=by
 obtain ⟨v,h1,h2,h3⟩:=h.blk
 exact ⟨⟨v,setH h1 _,h2.butF 2 _ h.rb_lt,h3⟩,h.le,h.rb_lt,by simpa using h.sz,fun x hx=>by simpa using h.zb x hx⟩
theorem LfAt.placeOf {w:World} {rb base:Nat} {Z:Nat→Prop} {s:ByteArray} {p:Nat} {bad:Bool} {fs:List FN} (h:LfAt w rb base Z s p bad fs):placeOf w rb=p:=by unfold Go.Proofs.YtehihemfepbmfaaGreatDoor.placeOf;rw[h.cells.2.1];simp[intOf]
set_option maxRecDepth 100000 in
theorem Yy {rb base p:Nat} {Z:Nat→Prop} {s:ByteArray} {bad:Bool} {fs:List FN} {w:World} (h:LfAt w rb base Z s p bad fs) (hs:s.size≤4000):
  Calls Tryz.prog 44 #[.pointer (some ⟨rb,0,none⟩)] w fun e w'=>e= .returned (.tuple #[])∧LfAt w' rb base Z s (skF s.data.toList p) bad fs∧LB rb base Z w w':=by
 have H:=Xa h
 clear h
 go_enter Tryz.func44,Tryz.ntmps44
 go_wp2_with fail
 go_loopw [] (fun wr=>∃q,LfAt wr rb base Z s q bad fs∧Hid (skF s.data.toList q=skF s.data.toList p)∧LB rb base Z w wr) (fun wr=>s.size-placeOf wr rb)
 case atStart=>exact ⟨p,H.out,rfl,LB.refl _ _ _ _⟩
 case round=>
  obtain ⟨q,hsr,HK,hbt⟩:=hrel
  have HS:=Xa hsr
  have HBT:=Xa hbt
  have h1:=hsr.cells.1
  have h2:=hsr.cells.2.1
  have h3:=hsr.free 1
  have h4:=hsr.lt
  have h5:=hsr.le
  clear hsr hbt
  by_cases hq:q<s.size
  ·have hq':(q:Int)<(s.size:Int):=by omega
   have HB:=Xa (byS hq)
   by_cases hb0:s[q].toNat=32
   ·have hbb:=hb0
    clear hb0
    have HNX:Hid (skF s.data.toList q=skF s.data.toList (q+1)):=Kb (by rw[Xm];exact hq) (by rw[←HB.out,hbb];rfl)
    have d0:((s[q].toNat:Int)==32)=true:=by rw[hbb];rfl
    have e0:(s[q].toNat:Int)=32:=by rw[hbb];rfl
    clear hbb
    go_wp2_with fail
    go_quiet (fail)
    have HD:=Xa (Xq (w:=wr) nq)
    have HR:=Xa (HS.out.below HD.out)
    have k1:=HR.out.cells.1
    have k2:=HR.out.cells.2.1
    have k3:=HR.out.free 1
    generalize wr.drewN nq=W1 at HR HD k1 k2 k3⊢
    clear nq h1 h2 h3
    go_wp2_with fail
    go_roundw
    case rel=>
     have e:((q:Int)+1)=((q+1:Nat):Int):=by omega
     refine ⟨q+1, ?_,by rw[Hid,←HNX.out];exact HK.out,(HBT.out.trans (LB.of_below HD.out)).trans (LB.of_set _ _)⟩
     rw[e]
     exact HR.out.setP hq
    case measure=>
     have e:((q:Int)+1)=((q+1:Nat):Int):=by omega
     rw[HS.out.placeOf,e,(HR.out.setP hq).placeOf]
     omega
   by_cases hb2:s[q].toNat=10
   ·have hbb:=hb2
    clear hb2
    have HNX:Hid (skF s.data.toList q=skF s.data.toList (q+1)):=Kb (by rw[Xm];exact hq) (by rw[←HB.out,hbb];rfl)
    have d0:((s[q].toNat:Int)==32)=false:=by simp;omega
    have e0:¬(s[q].toNat:Int)=32:=by omega
    have d2:((s[q].toNat:Int)==10)=true:=by rw[hbb];rfl
    have e2:(s[q].toNat:Int)=10:=by rw[hbb];rfl
    clear hbb
    go_wp2_with fail
    go_quiet (fail)
    have HD:=Xa (Xq (w:=wr) nq)
    have HR:=Xa (HS.out.below HD.out)
    have k1:=HR.out.cells.1
    have k2:=HR.out.cells.2.1
    have k3:=HR.out.free 1
    generalize wr.drewN nq=W1 at HR HD k1 k2 k3⊢
    clear nq h1 h2 h3
    go_wp2_with fail
    go_roundw
    case rel=>
     have e:((q:Int)+1)=((q+1:Nat):Int):=by omega
     refine ⟨q+1, ?_,by rw[Hid,←HNX.out];exact HK.out,(HBT.out.trans (LB.of_below HD.out)).trans (LB.of_set _ _)⟩
     rw[e]
     exact HR.out.setP hq
    case measure=>
     have e:((q:Int)+1)=((q+1:Nat):Int):=by omega
     rw[HS.out.placeOf,e,(HR.out.setP hq).placeOf]
     omega
   ·have HNX:Hid (skF s.data.toList q=q):=Q1 (fun e=>by
     have:=e.2
     rw[←HB.out] at this
     unfold Xb4 at this
     simp at this
     omega)
    have d0:((s[q].toNat:Int)==32)=false:=by simp;omega
    have e0:¬(s[q].toNat:Int)=32:=by omega
    have d2:((s[q].toNat:Int)==10)=false:=by simp;omega
    have e2:¬(s[q].toNat:Int)=10:=by omega
    clear hb0 hb2
    go_wp2_with fail
    go_quiet (fail)
    have HD:=Xa (Xq (w:=wr) nq)
    go_wp2_with fail
    go_end0
    exact ⟨rfl,by rw[←HK.out,HNX.out];exact HS.out.below HD.out,HBT.out.trans (LB.of_below HD.out)⟩
  ·obtain rfl:q=s.size:=by omega
   have HNX:Hid (skF s.data.toList s.size=s.size):=Xbc (by rw[Xm];omega)
   go_wp2_with fail
   go_quiet (fail)
   have HD:=Xa (Xq (w:=wr) nq)
   go_wp2_with fail
   go_end0
   exact ⟨rfl,by rw[←HK.out,HNX.out];exact HS.out.below HD.out,HBT.out.trans (LB.of_below HD.out)⟩
end Go.Proofs.YtehihemfepbmfaaGreatDoor
