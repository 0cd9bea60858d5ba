import Derived.Test.YtehihemfepbmfaaGreatDoorSInt
import Derived.Test.YtehihemfepbmfaaGreatDoorGBld
import Derived.Test.YtehihemfepbmfaaGreatDoorLeaf
import Derived.Test.YtehihemfepbmfaaGreatDoorGupN
import Derived.Test.YtehihemfepbmfaaGreatDoorSDig
import Derived.Test.YtehihemfepbmfaaGreatDoorUneP
import Derived.Laws.Bits128
namespace Go.Proofs.YtehihemfepbmfaaGreatDoor
set_option linter.unusedSectionVars false
set_option maxHeartbeats 12800000
open Go.RowKit
set_option linter.unusedSimpArgs false
set_option linter.unusedVariables false
theorem Xqt:FT 40 0:=⟨by kernel_rfl,by decide⟩
set_option maxRecDepth 100000 in
theorem Xnv {b:Nat} {p:Value} {w:World} (hb:w.heap[b]? =some (.cells #[p, .slice none 0 0] 40 (0,0))):
  Calls Tryz.prog 24 #[.pointer (some ⟨b,0,none⟩)] w fun e w'=>e= .returned (.string (txt []))∧Below w.heap.size w w':=by
 have mixed:Tryz.prog.follows .mixedOrders=true:=by kernel_rfl
 have hb':w.drew.heap[b]? =some (.cells #[p, .slice none 0 0] 40 (0,0)):=hb
 have c1:w.drew.cell? ⟨b,1,none⟩=some (.slice none 0 0):=cellAt hb' (by simp)
 have HE:=Xa (show Below w.heap.size w w.drew from Below.drew (Below.refl _ _))
 have hSD:(Builtin.unsafeSliceData_ #[22] 97 #[.slice none 0 0]).run Tryz.prog w.drew= .ok (.pointer none) w.drew:=rfl
 have hUS:(Builtin.unsafeString_ #[97,3] 9 #[.pointer none, .int .i64 0]).run Tryz.prog w.drew= .ok (.string .empty) w.drew:=Lib.run_unsafeString_none w.drew _ _ _ _
 clear hb'
 go_enter Tryz.func24,Tryz.ntmps24
 go_wp2
 go_region_o
 all_goals (go_wp2;go_ret;exact ⟨rfl,HE.out⟩)
structure Wr (w:World) (b:Nat) (l:List UInt8) (wr:World):Prop where
 fb:FB 40 w.heap.size b [] l wr
 nil:l= []→wr.heap[b]? =some (.cells #[.pointer none, .slice none 0 0] 40 (0,0))
theorem Wr.read {w wr w2:World} {rb b:Nat} {l:List UInt8} (h:Wr w b l wr) (hb:But rb wr w2) (hr:rb<w.heap.size):Wr w b l w2:=by
 obtain ⟨h1,p,v,hp,h2,h3,h4⟩:=h.fb
 have hbl:b<wr.heap.size:=X6 h2
 have e:w2.heap[b]? =wr.heap[b]? :=hb.block b hbl (by omega)
 refine ⟨⟨h1,p,v,hp,e.trans h2, ?_,h4⟩,fun hl=>e.trans (h.nil hl)⟩
 exact Xuu (w:=wr) h3 ⟨hb.size,fun c c1 c2=>hb.block c c2 (by omega)⟩
theorem But.belowN {rb:Nat} {w a b:World} (h:But rb w a) (k:Below w.heap.size a b):But rb w b:=
 ⟨k.os.trans h.os,k.tape.trans h.tape,k.output.trans h.output,Nat.le_trans h.size k.size,fun c hc hn=>(k.block c hc).trans (h.block c hc hn)⟩
theorem Xdx {X:Option (List UInt8×Nat)} {l:List UInt8} {b:UInt8}:(X.map (fun y=>(b::y.1,y.2))).map (fun y=>(l++y.1,y.2))=X.map (fun y=>((l++ [b])++y.1,y.2)):=by cases X<;>simp
theorem Xqu {L:List UInt8} {q:Nat} (hq:q<L.length) (h:Xh L q=34):txJ L q=some ([],q+1):=by rw[Gs hq,if_pos h]
theorem Xqv {L:List UInt8} {q b z:Nat} (hq:q<L.length) (h:Xh L q=92) (he:Z1 L (q+1)=some (b,z)):txJ L q=(txJ L z).map (fun y=>(UInt8.ofNat b::y.1,y.2)):=by
 rw[Gs hq,if_neg (by omega),if_pos h,he]
 dsimp only
 cases txJ L z<;>rfl
theorem Xji {L:List UInt8} {q:Nat} (hq:q<L.length) (h:Xh L q=92) (he:Z1 L (q+1)=none):txJ L q=none:=by rw[Gs hq,if_neg (by omega),if_pos h,he]
theorem Xqw {L:List UInt8} {q:Nat} (hq:q<L.length) (h1:Xh L q≠34) (h2:Xh L q≠92) (h:Xh L q<32∨127<Xh L q):txJ L q=none:=by rw[Gs hq,if_neg h1,if_neg h2,if_pos h]
theorem Xl9 {L:List UInt8} {q:Nat} (hq:q<L.length) (h1:Xh L q≠34) (h2:Xh L q≠92) (h:¬(Xh L q<32∨127<Xh L q)):txJ L q=(txJ L (q+1)).map (fun y=>(UInt8.ofNat (Xh L q)::y.1,y.2)):=by
 rw[Gs hq,if_neg h1,if_neg h2,if_neg h]
 cases txJ L (q+1)<;>rfl

theorem Wr.apartF {X:Nat→Option Value} {w wr:World} {rb b:Nat} {l:List UInt8} {s:ByteArray} {q:Nat} {w2:World} (hs:SfAt X wr rb s q) (hr:rb<w.heap.size) (hb:Below w.heap.size wr w2):SfAt X w2 rb s q:=hs.keep (hb.block rb hr) hb.size
set_option maxRecDepth 100000 in
theorem Xr0 {X : Nat → Option Value} {rb p : Nat} {s : ByteArray} {w : World} (h : SfAt X w rb s p) (hs : s.size ≤ 4000) :
  Calls Tryz.prog 149 #[.pointer (some ⟨rb,0,none⟩)] w fun e w'=>((∃l q,Xe s.data.toList p 34=true∧txJ s.data.toList (p+1)=some (l,q)∧e= .returned (.string (txt l))∧SfAt X w' rb s q)∨((Xe s.data.toList p 34=false∨txJ s.data.toList (p+1)=none)∧e=gup))∧But rb w w':=by
 have H:=Xa h
 have hps:=h.br.le
 have hrb:=h.br.lt
 have HLN:=Xa (Xm s)
 clear h
 by_cases hq:p<s.size
 ·have HQL : Hid (p < s.data.toList.length) := by rw [Hid, HLN.out]; exact hq
  have HNX:=Xa (Xa4 H.out hq (by omega))
  rw[byS hq] at HNX
  have hb256:=Jt s.data.toList p
  obtain ⟨c,hc⟩:∃c,Xh s.data.toList p=c:=⟨_,rfl⟩
  have HC:=Xa hc
  rw[hc] at HNX hb256
  clear hc
  by_cases c1:c=34
  ·subst c1
   have HIS:Hid (Xe s.data.toList p 34=true):=Xl.2 ⟨HQL.out,HC.out⟩
   go_enter Tryz.func149,Tryz.ntmps149
   go_wp2_with fail
   refine HNX.out.mono ?_
   rintro e w1 ⟨rfl,hr1,hb1⟩
   have HR1:=Xa hr1
   have HB1:=Xa hb1
   have z1:=hb1.size
   have hal:Below w1.heap.size w1 (w1.alloc (.cells #[.pointer none, .slice none 0 0] 40)):=(Below.refl _ _).alloc (Nat.le_refl _) _
   have HR2:=Xa (hr1.below hal)
   have HB2:Hid (But rb w (w1.alloc (.cells #[.pointer none, .slice none 0 0] 40))):=hb1.trans (But.of_below hal)
   have HW2:Hid (Wr w w1.heap.size [] (w1.alloc (.cells #[.pointer none, .slice none 0 0] 40))):=by
    have e0:(w1.alloc (.cells #[.pointer none, .slice none 0 0] 40)).heap[w1.heap.size]? =some (.cells #[.pointer none, .slice none 0 0] 40 (0,0)):=by show (w1.heap.push _)[w1.heap.size]? =_;simp
    exact ⟨⟨z1, .pointer none, .slice none 0 0, .inl rfl,e0,World.ownsRow_nil _ _ _ _,by simp[Value.ownBlock]⟩,fun _=>e0⟩
   obtain ⟨bb,hbb⟩:∃bb,w1.heap.size=bb:=⟨_,rfl⟩
   have HBBE:=Xa hbb
   clear hr1 hb1 hal
   rw[hbb] at HW2
   go_wp2_with fail
   go_loopw [4] (fun cc wr=>∃(q:Nat) (l:List UInt8),SfAt X wr rb s q∧Wr w bb l wr∧But rb w wr∧p+1≤q∧l.length+(p+1)≤q∧Hid (txJ s.data.toList (p+1)=(txJ s.data.toList q).map (fun y=>(l++y.1,y.2)))) (fun _ wr=>s.size+1-placeOf wr rb)
   case atStart=>exact ⟨p+1,[],HR2.out,HW2.out,HB2.out,Nat.le_refl _,by simp,by rw[Hid];cases txJ s.data.toList (p+1)<;>rfl⟩
   case round =>
    obtain ⟨q,l,hsr,hwr,hbt,hpq,hlq,HT⟩:=hrel
    have HS:=Xa hsr
    have HW:=Xa hwr
    have HBT:=Xa hbt
    have hqs:=hsr.br.le
    have zr:=hbt.size
    clear hsr hwr hbt
    by_cases hq2:q<s.size
    ·have HQ2:Hid (q<s.data.toList.length):=by rw[Hid,HLN.out];exact hq2
     have HNX2:=Xa (Xa4 HS.out hq2 (by omega))
     rw[byS hq2] at HNX2
     have hc256:=Jt s.data.toList q
     obtain ⟨c,hc⟩:∃c,Xh s.data.toList q=c:=⟨_,rfl⟩
     have HCC:=Xa hc
     rw[hc] at HNX2 hc256
     clear hc
     by_cases d1:c=34
     ·subst d1
      have HEQ:Hid (txJ s.data.toList (p+1)=some (l,q+1)):=by rw[Hid,HT.out,Xqu HQ2.out HCC.out];simp
      go_wp2_with fail
      refine HNX2.out.mono ?_
      rintro e w2 ⟨rfl,hr2,hb2⟩
      have HR3:=Xa hr2
      have HBT3:=Xa (HBT.out.trans hb2)
      have HW3:=Xa (HW.out.read hb2 hrb)
      clear hr2 hb2
      by_cases hl:l= []
      ·have HNIL:=Xa (Xnv (HW3.out.nil hl))
       rw[hl] at HEQ
       clear hl
       go_wp2_with fail
       refine HNIL.out.mono ?_
       rintro e w4 ⟨rfl,hb4⟩
       have HB4:=Xa hb4
       clear hb4
       go_wp2_with fail
       go_ret
       exact ⟨.inl ⟨[],q+1,HIS.out,HEQ.out,rfl,HR3.out.below HB4.out⟩,HBT3.out.trans (But.of_below HB4.out)⟩
      ·have HSTR:=Xa (Xg2 HW3.out.fb hl)
       clear hl
       go_wp2_with fail
       refine HSTR.out.mono ?_
       rintro e w4 ⟨rfl,hb4⟩
       have HR4:=Xa (Wr.apartF (b:=bb) (l:=l) HR3.out hrb hb4)
       have HB4:=Xa (HBT3.out.belowN hb4)
       clear hb4
       go_wp2_with fail
       go_ret
       exact ⟨.inl ⟨l,q+1,HIS.out,HEQ.out,rfl,HR4.out⟩,HB4.out⟩
     ·have r1:((c:Int)==34)=false:=by simp;omega
      have r1':¬(c:Int)=34:=by omega
      by_cases d2:c=92
      ·subst d2
       go_wp2_with fail
       refine HNX2.out.mono ?_
       rintro e w2 ⟨rfl,hr2,hb2⟩
       have HR3:=Xa hr2
       have HBT3:=Xa (HBT.out.trans hb2)
       have HW3:=Xa (HW.out.read hb2 hrb)
       clear hr2 hb2
       go_wp2_with fail
       refine (Xkl HR3.out (by omega)).mono ?_
       rintro e w3 ⟨⟨b,z,hes,rfl,hr3⟩|⟨hes,rfl⟩,hb3⟩
       ·obtain ⟨y1,y2,y3⟩:=Wp hes
        have HEQ:Hid (txJ s.data.toList q=(txJ s.data.toList z).map (fun y=>(UInt8.ofNat b::y.1,y.2))):=Xqv HQ2.out HCC.out hes
        have HR4:=Xa hr3
        have HBT4:=Xa (HBT3.out.trans hb3)
        have HW4:=Xa (HW3.out.read hb3 hrb)
        have hbv:((UInt8.ofNat b).toNat:Int)=(b:Int):=by rw[UInt8.toNat_ofNat',Nat.mod_eq_of_lt (by omega)]
        have HBY:=Xa (Vm Xqt HW4.out.fb (UInt8.ofNat b) (by omega) (by have:=HBT4.out.size;omega))
        rw[hbv] at HBY
        clear hes hr3 hb3 hbv
        go_wp2_with fail
        refine HBY.out.mono ?_
        rintro e w9 ⟨rfl,hf9,hb9,_⟩
        have HF9:Hid (Wr w bb (l++ [UInt8.ofNat b]) w9):=⟨hf9,fun e=>by simp at e⟩
        have HR9:=Xa (Wr.apartF (b:=bb) (l:=l) HR4.out hrb hb9)
        have HB9:=Xa (HBT4.out.belowN hb9)
        clear hf9 hb9
        go_wp2_with fail
        go_roundw
        case rel=>exact ⟨z,l++ [UInt8.ofNat b],HR9.out,HF9.out,HB9.out,by omega,by simp;omega,by rw[Hid,HT.out,HEQ.out];exact Xdx⟩
        case measure=>rw[HS.out.placeOf,HR9.out.placeOf];omega
       ·have HEQ:Hid (txJ s.data.toList (p+1)=none):=by rw[Hid,HT.out,Xji HQ2.out HCC.out hes];rfl
        have HBT4:=Xa (HBT3.out.trans hb3)
        clear hes hb3
        unfold gup
        go_wp2_with fail
        exact ⟨rfl, .inr ⟨.inr HEQ.out,rfl⟩,HBT4.out⟩
      ·have r2:((c:Int)==92)=false:=by simp;omega
       have r2':¬(c:Int)=92:=by omega
       by_cases d3:c<32∨127<c
       ·have HEQ:Hid (txJ s.data.toList (p+1)=none):=by rw[Hid,HT.out,Xqw HQ2.out (by rw[HCC.out];exact d1) (by rw[HCC.out];exact d2) (by rw[HCC.out];exact d3)];rfl
        by_cases d4:c<32
        ·have r3:(c:Int)<32:=by omega
         go_wp2_with fail
         refine HNX2.out.mono ?_
         rintro e w2 ⟨rfl,hr2,hb2⟩
         have HBT3:=Xa (HBT.out.trans hb2)
         clear hr2 hb2
         go_wp2_with fail
         exact ⟨rfl, .inr ⟨.inr HEQ.out,rfl⟩,HBT3.out⟩
        ·have r3:¬(c:Int)<32:=by omega
         have r4:(127:Int)<(c:Int):=by omega
         go_wp2_with fail
         refine HNX2.out.mono ?_
         rintro e w2 ⟨rfl,hr2,hb2⟩
         have HBT3:=Xa (HBT.out.trans hb2)
         clear hr2 hb2
         go_wp2_with fail
         exact ⟨rfl, .inr ⟨.inr HEQ.out,rfl⟩,HBT3.out⟩
       ·have HEQ0:=Xl9 HQ2.out (by rw[HCC.out];exact d1) (by rw[HCC.out];exact d2) (by rw[HCC.out];exact d3)
        rw[HCC.out] at HEQ0
        have HEQ:=Xa HEQ0
        have r3:¬(c:Int)<32:=by omega
        have r4:¬(127:Int)<(c:Int):=by omega
        clear HEQ0
        go_wp2_with fail
        refine HNX2.out.mono ?_
        rintro e w2 ⟨rfl,hr2,hb2⟩
        have HR4:=Xa hr2
        have HBT4:=Xa (HBT.out.trans hb2)
        have HW4:=Xa (HW.out.read hb2 hrb)
        have hbv:((UInt8.ofNat c).toNat:Int)=(c:Int):=by rw[UInt8.toNat_ofNat',Nat.mod_eq_of_lt (by omega)]
        have HBY:=Xa (Vm Xqt HW4.out.fb (UInt8.ofNat c) (by omega) (by have:=HBT4.out.size;omega))
        rw[hbv] at HBY
        clear hr2 hb2 hbv
        go_wp2_with fail
        refine HBY.out.mono ?_
        rintro e w9 ⟨rfl,hf9,hb9,_⟩
        have HF9:Hid (Wr w bb (l++ [UInt8.ofNat c]) w9):=⟨hf9,fun e=>by simp at e⟩
        have HR9:=Xa (Wr.apartF (b:=bb) (l:=l) HR4.out hrb hb9)
        have HB9:=Xa (HBT4.out.belowN hb9)
        clear hf9 hb9
        go_wp2_with fail
        go_roundw
        case rel=>exact ⟨q+1,l++ [UInt8.ofNat c],HR9.out,HF9.out,HB9.out,by omega,by simp;omega,by rw[Hid,HT.out,HEQ.out];exact Xdx⟩
        case measure=>rw[HS.out.placeOf,HR9.out.placeOf];omega
    ·obtain rfl:q=s.size:=by omega
     have HEQ:Hid (txJ s.data.toList (p+1)=none):=by rw[Hid,HT.out,Xb8 (by rw[HLN.out];omega)];rfl
     have HNX2:=Xa (Xdq HS.out.br (by omega))
     go_wp2_with fail
     refine HNX2.out.mono ?_
     rintro e w2 ⟨rfl,_,hb2⟩
     have HBT3:=Xa (HBT.out.trans hb2)
     clear hb2
     unfold gup
     go_wp2_with fail
     exact ⟨rfl, .inr ⟨.inr HEQ.out,rfl⟩,HBT3.out⟩
  ·have q1:((c:Int) !=34)=true:=by simp;omega
   have q1':¬(c:Int)=34:=by omega
   have HIS:Hid (Xe s.data.toList p 34=false):=X7.2 (fun e=>c1 (by rw[←HC.out];exact e.2))
   go_enter Tryz.func149,Tryz.ntmps149
   go_wp2_with fail
   refine HNX.out.mono ?_
   rintro e w1 ⟨rfl,hr1,hb1⟩
   have HB1:=Xa hb1
   clear hr1 hb1
   go_wp2_with fail
   exact ⟨rfl, .inr ⟨.inl HIS.out,rfl⟩,HB1.out⟩
 ·obtain rfl:p=s.size:=by omega
  have HIS:Hid (Xe s.data.toList s.size 34=false):=X7.2 (fun e=>by have:=e.1;rw[HLN.out] at this;omega)
  have HNX:=Xa (Xdq H.out.br (by omega))
  go_enter Tryz.func149,Tryz.ntmps149
  go_wp2_with fail
  refine HNX.out.mono ?_
  rintro e w1 ⟨rfl,_,hb1⟩
  have HB1:=Xa hb1
  clear hb1
  unfold gup
  go_wp2_with fail
  exact ⟨rfl, .inr ⟨.inl HIS.out,rfl⟩,HB1.out⟩



structure SjAt (w:World) (rb:Nat) (s:ByteArray) (p:Nat) (bad:Bool) (c:Nat):Prop where
 blk:w.heap[rb]? =some (.cells #[.string s, .int .i64 p, .bool bad, .int .i64 c] 149 (0,0))
 le:p≤s.size
 few:c≤5000
theorem SjAt.lt {w:World} {rb p c:Nat} {s:ByteArray} {bad:Bool} (h:SjAt w rb s p bad c):rb<w.heap.size:=ltH h.blk
theorem SjAt.cells {w:World} {rb p c:Nat} {s:ByteArray} {bad:Bool} (h:SjAt w rb s p bad c):w.cell? ⟨rb,0,none⟩=some (.string s)∧w.cell? ⟨rb,1,none⟩=some (.int .i64 p)∧w.cell? ⟨rb,2,none⟩=some (.bool bad)∧w.cell? ⟨rb,3,none⟩=some (.int .i64 c):=
 ⟨Xar h.blk rfl,Xar h.blk rfl,Xar h.blk rfl,Xar h.blk rfl⟩
theorem SjAt.free {w:World} {rb p c:Nat} {s:ByteArray} {bad:Bool} (h:SjAt w rb s p bad c) (i:Nat):w.frozen? ⟨rb,i,none⟩=false:=Lib.frozen_of_heap h.blk i
theorem SjAt.keep {w w':World} {rb p c:Nat} {s:ByteArray} {bad:Bool} (h:SjAt w rb s p bad c) (hb:w'.heap[rb]? =w.heap[rb]?):SjAt w' rb s p bad c:=⟨hb.trans h.blk,h.le,h.few⟩
theorem SjAt.below {w w':World} {rb p c:Nat} {s:ByteArray} {bad:Bool} (h:SjAt w rb s p bad c) (hb:Below w.heap.size w w'):SjAt w' rb s p bad c:=h.keep (hb.block rb h.lt)
theorem SjAt.setP {w:World} {rb p c q:Nat} {s:ByteArray} {bad:Bool} (h:SjAt w rb s p bad c) (hq:q≤s.size):SjAt (w.setCell ⟨rb,1,none⟩ (.int .i64 q)) rb s q bad c:=⟨setH h.blk _,hq,h.few⟩
theorem SjAt.setB {w:World} {rb p c:Nat} {s:ByteArray} {bad:Bool} (h:SjAt w rb s p bad c) (x:Bool):SjAt (w.setCell ⟨rb,2,none⟩ (.bool x)) rb s p x c:=⟨setH h.blk _,h.le,h.few⟩
theorem SjAt.placeOf {w:World} {rb p c:Nat} {s:ByteArray} {bad:Bool} (h:SjAt w rb s p bad c):placeOf w rb=p:=by unfold Go.Proofs.YtehihemfepbmfaaGreatDoor.placeOf;rw[h.cells.2.1];simp[intOf]

theorem Jd {L:List UInt8} {p:Nat} {c:UInt8}:Qp L p [c]=Xe L p c.toNat:=by
 unfold Qp Xe
 by_cases h:p<L.length
 ·rw[List.drop_eq_getElem_cons h]
  have e:Xh L p=(L[p]).toNat:=by unfold Xh;rw[List.getD_eq_getElem?_getD,List.getElem?_eq_getElem h];rfl
  rw[e,show List.take [c].length (L[p]::L.drop (p+1))= [L[p]] from rfl,Bool.eq_iff_iff]
  simp only[decide_eq_true_eq,Bool.and_eq_true,List.cons.injEq,and_true]
  exact ⟨fun x=>⟨h,by rw[x]⟩,fun x=>UInt8.toNat_inj.1 x.2⟩
 ·rw[List.drop_of_length_le (by omega)]
  simp[h]
theorem Xcm {s u:ByteArray} {p:Nat}:Qp s.data.toList p u.data.toList=decide (Xab s.data.toList p u.size=u):=by
 unfold Qp Xab
 rw[Xm,Bool.eq_iff_iff]
 simp only[decide_eq_true_eq]
 exact ⟨fun h=>by rw[h,Ql],fun h=>by rw[←Xz (List.take _ _),h]⟩
set_option maxRecDepth 100000 in
theorem Xcn {rb p c:Nat} {s u:ByteArray} {w:World} (h:SjAt w rb s p false c) (hs:s.size≤4000) (hu:u.size≤1000) (hu0:u.data.toList≠ []) (hw:Qp s.data.toList p u.data.toList=true):
  Calls Tryz.prog 152 #[.pointer (some ⟨rb,0,none⟩), .string u] w fun e w'=>e= .returned (.bool true)∧SjAt w' rb s (p+u.size) false c∧But rb w w':=by
 have H:=Xa h
 obtain ⟨c0,c1,c2,c3⟩:=h.cells
 have f1:=h.free 1
 have hle:=h.le
 clear h
 have hfit:p+u.size≤s.size:=by have:=Xqm hw hu0;rw[Xm,Xm] at this;exact this
 have HT:Hid (Xab s.data.toList p u.size=u):=by rw[Xcm] at hw;simpa [Hid] using hw
 clear hw
 have g3:¬(s.size:Int)<(p:Int)+(u.size:Int):=by omega
 have d3:decide ((s.size:Int)<(p:Int)+(u.size:Int))=false:=by simpa using g3
 have e1:((p+u.size:Nat):Int)=(p:Int)+(u.size:Int):=by omega
 have hcut:∀w,(Instr.slice 9 (.string s) (some (.int .i64 (p:Int))) (some (.int .i64 ((p:Int)+(u.size:Int)))) none).run Tryz.prog w= .ok (.string u) w:=fun w=>by
  have:=Gk (P:=Tryz.prog) (t:=9) s p (p+u.size) Tryz.underlying9 (by omega) hfit w
  rw[e1,Nat.add_sub_cancel_left] at this
  have e:=HT.out
  unfold Xab at e
  rw[this,e]
 go_enter Tryz.func152,Tryz.ntmps152
 go_wp2_with fail
 go_quiet (fail)
 have HD1:=Xa (Xq (w:=w) nq)
 have HR1:=Xa (H.out.below HD1.out)
 obtain ⟨k0,k1,k2,k3⟩:=HR1.out.cells
 have l1:=HR1.out.free 1
 generalize w.drewN nq=W1 at HR1 HD1 k0 k1 k2 k3 l1⊢
 clear nq c0 c1 c2 c3 f1
 have HR2:=Xa (HR1.out.setP hfit)
 have HB2:=Xa ((But.of_below (rb:=rb) HD1.out).trans (But.of_set 1 (.int .i64 ((p:Int)+(u.size:Int)))))
 rw[e1] at HR2
 go_wp2_with fail
 go_ret
 exact ⟨rfl,HR2.out,HB2.out⟩
set_option maxRecDepth 100000 in
theorem Xd0 {rb p c:Nat} {s u:ByteArray} {bad:Bool} {w:World} (h:SjAt w rb s p bad c) (hs:s.size≤4000) (hu:u.size≤1000) (hw:bad=true∨Qp s.data.toList p u.data.toList=false):
  Calls Tryz.prog 152 #[.pointer (some ⟨rb,0,none⟩), .string u] w fun e w'=>e= .returned (.bool false)∧SjAt w' rb s p bad c∧But rb w w':=by
 have H:=Xa h
 obtain ⟨c0,c1,c2,c3⟩:=h.cells
 have hle:=h.le
 clear h
 cases hb:bad
 rotate_left
 focus
  subst hb
  go_enter Tryz.func152,Tryz.ntmps152
  go_wp2_with fail
  go_quiet (fail)
 rotate_left
 focus
  subst hb
  have HT:Hid (Xab s.data.toList p u.size≠u):=by
   rcases hw with hw|hw
   ·cases hw
   ·rw[Xcm] at hw;simpa [Hid] using hw
  clear hw
  by_cases g3:s.size<p+u.size
  focus
   have g3':(s.size:Int)<(p:Int)+(u.size:Int):=by omega
   have d3:decide ((s.size:Int)<(p:Int)+(u.size:Int))=true:=by simpa using g3'
   go_enter Tryz.func152,Tryz.ntmps152
   go_wp2_with fail
   go_quiet (fail)
  rotate_left
  focus
   have g3':¬(s.size:Int)<(p:Int)+(u.size:Int):=by omega
   have d3:decide ((s.size:Int)<(p:Int)+(u.size:Int))=false:=by simpa using g3'
   have e1:((p+u.size:Nat):Int)=(p:Int)+(u.size:Int):=by omega
   obtain ⟨T,hT⟩:∃T,Xab s.data.toList p u.size=T:=⟨_,rfl⟩
   have HTT:=Xa hT
   rw[hT] at HT
   clear hT
   have hcut:∀w,(Instr.slice 9 (.string s) (some (.int .i64 (p:Int))) (some (.int .i64 ((p:Int)+(u.size:Int)))) none).run Tryz.prog w= .ok (.string T) w:=fun w=>by
    have:=Gk (P:=Tryz.prog) (t:=9) s p (p+u.size) Tryz.underlying9 (by omega) (by omega) w
    rw[e1,Nat.add_sub_cancel_left] at this
    have e:=HTT.out
    unfold Xab at e
    rw[this,e]
   have hne:(T.toList==u.toList)=false:=by
    rw[Bool.eq_false_iff]
    exact fun e=>HT.out (Xdn e)
   have hne':¬T.toList=u.toList:=by simpa using hne
   go_enter Tryz.func152,Tryz.ntmps152
   go_wp2_with fail
   go_quiet (fail)
 all_goals
  have HD1:=Xa (Xq (w:=w) nq)
  have HR1:=Xa (H.out.below HD1.out)
  generalize w.drewN nq=W1 at HR1 HD1⊢
  go_wp2_with fail
  go_ret
  exact ⟨rfl,HR1.out,But.of_below HD1.out⟩

def escNm:List UInt8:= [34,92,47,98,102,110,114,116]
def escMn:List UInt8:= [34,92,47,8,12,10,13,9]
theorem Xmw:∀i:Fin 8,Uq (escNm.getD i.val 0).toNat=some (escMn.getD i.val 0).toNat:=by decide+kernel
theorem Xkn:∀n:Fin 256,(∀i:Fin 8,n.val≠(escNm.getD i.val 0).toNat)→Uq n.val=none:=by decide+kernel
theorem Xv1 {L:List UInt8} {p i:Nat} (hi:i<8) (h:Xe L p (escNm.getD i 0).toNat=true):Z1 L p=some ((escMn.getD i 0).toNat,p+1):=by
 obtain ⟨h1,h2⟩:=Xl.1 h
 exact Xek h1 (by rw[h2];exact Xmw ⟨i,hi⟩)
theorem Xsg {L:List UInt8} {p:Nat} (hp:p<L.length) (h:∀i,i<8→Xe L p (escNm.getD i 0).toNat=false):Uq (Xh L p)=none:=
 Xkn ⟨Xh L p,Jt L p⟩ (fun i e=>by have:=h i.val i.isLt;rw[X7] at this;exact this ⟨hp,e⟩)
theorem Xsh {i:Nat} (h:i<8):(ByteArray.mk #[34,92,47,98,102,110,114,116])[i]'h=escNm.getD i 0:=by
 show escNm[i]'h=escNm.getD i 0
 rw[List.getD,List.getElem?_eq_getElem (show i<escNm.length from h)];rfl
theorem Xsi {i:Nat} (h:i<8):(ByteArray.mk #[34,92,47,8,12,10,13,9])[i]'h=escMn.getD i 0:=by
 show escMn[i]'h=escMn.getD i 0
 rw[List.getD,List.getElem?_eq_getElem (show i<escMn.length from h)];rfl
theorem Xo8:∀n:Fin 256,(Gn (UInt8.ofNat n.val)<0∧Kp n.val=none)∨(0≤Gn (UInt8.ofNat n.val)∧Kp n.val=some (Gn (UInt8.ofNat n.val)).toNat):=by decide+kernel
theorem Xsj (c:UInt8):(Gn c<0∧Kp c.toNat=none)∨(0≤Gn c∧Kp c.toNat=some (Gn c).toNat):=by
 have:=Xo8 ⟨c.toNat,c.toNat_lt⟩
 simp only[UInt8.ofNat_toNat] at this
 exact this
theorem Xsk {N d:Int} {k:Nat} (h:N.natAbs<100^k) (h1: -1≤d) (h2:d<16):(16 *N+d).natAbs<100^(k+1):=by
 rw[Nat.pow_succ];omega
theorem Xv2 {N:Int} {k:Nat} (h:N.natAbs<100^k) (hk:k≤4): -100000000<N∧N<100000000:=by
 have h1:100^k≤100^4:=Nat.pow_le_pow_right (by decide) hk
 have h2:(100^4:Nat)=100000000:=by decide
 omega
theorem Xf5 (v u:Value) (w:World):(callFunc 152 #[v,u]).run Tryz.prog w= .ok (.enter 152 #[v,u]) w:=by kernel_rfl

def badOf (w:World) (rb:Nat):Bool:=match w.cell? ⟨rb,2,none⟩ with|some (.bool b)=>b|_=>false
theorem SjAt.badOf {w:World} {rb p c:Nat} {s:ByteArray} {bad:Bool} (h:SjAt w rb s p bad c):badOf w rb=bad:=by unfold Go.Proofs.YtehihemfepbmfaaGreatDoor.badOf;rw[h.cells.2.2.1]
def TxNo (L:List UInt8) (p:Nat):Prop:=∀l q,txJ L p=some (l,q)→60<l.length
theorem TxNo.of_none {L:List UInt8} {p:Nat} (h:txJ L p=none):TxNo L p:=fun l q e=>by rw[h] at e;cases e
def TxAt (L:List UInt8) (p q:Nat) (l:List UInt8):Prop:=txJ L p=(txJ L q).map (fun y=>(l++y.1,y.2))
theorem TxAt.start (L:List UInt8) (p:Nat):TxAt L p p []:=by unfold TxAt;cases txJ L p<;>simp
theorem TxAt.none {L:List UInt8} {p q:Nat} {l:List UInt8} (h:TxAt L p q l) (e:txJ L q=Option.none):TxNo L p:= .of_none (by rw[h,e];rfl)
theorem TxAt.end {L:List UInt8} {p q:Nat} {l:List UInt8} (h:TxAt L p q l) (hq:Xe L q 34=true):txJ L p=some (l,q+1):=by
 obtain ⟨h1,h2⟩:=Xl.1 hq
 rw[h,Xqu h1 h2];simp
theorem TxAt.esc {L:List UInt8} {p q z b:Nat} {l:List UInt8} (h:TxAt L p q l) (hq:Xe L q 92=true) (he:Z1 L (q+1)=some (b,z)):TxAt L p z (l++ [UInt8.ofNat b]):=by
 obtain ⟨h1,h2⟩:=Xl.1 hq
 unfold TxAt at *
 rw[h,Xqv h1 h2 he];exact Xdx
theorem TxAt.noesc {L:List UInt8} {p q:Nat} {l:List UInt8} (h:TxAt L p q l) (hq:Xe L q 92=true) (he:Z1 L (q+1)=Option.none):TxNo L p:=by
 obtain ⟨h1,h2⟩:=Xl.1 hq
 exact h.none (Xji h1 h2 he)
theorem TxAt.bad {L:List UInt8} {p q:Nat} {l:List UInt8} (h:TxAt L p q l) (h1:Xe L q 34=false) (h2:Xe L q 92=false) (h3:q<L.length→Xh L q<32∨127<Xh L q):TxNo L p:=by
 by_cases hq:q<L.length
 ·rw[X7] at h1 h2
  exact h.none (Xqw hq (fun e=>h1 ⟨hq,e⟩) (fun e=>h2 ⟨hq,e⟩) (h3 hq))
 ·exact h.none (Xb8 (by omega))
theorem TxAt.step {L:List UInt8} {p q:Nat} {l:List UInt8} (h:TxAt L p q l) (hq:q<L.length) (h1:Xe L q 34=false) (h2:Xe L q 92=false) (h3:32≤Xh L q) (h4:Xh L q≤127):TxAt L p (q+1) (l++ [UInt8.ofNat (Xh L q)]):=by
 rw[X7] at h1 h2
 unfold TxAt at *
 rw[h,Xl9 hq (fun e=>h1 ⟨hq,e⟩) (fun e=>h2 ⟨hq,e⟩) (by omega)];exact Xdx
theorem TxAt.long {L:List UInt8} {p q:Nat} {l:List UInt8} (h:TxAt L p q l) (hl:60<l.length):TxNo L p:=fun l' q' e=>by
 unfold TxAt at h
 rw[h] at e
 cases e2:txJ L q with
 |none=>rw[e2] at e;cases e
 | some y =>
  rw[e2] at e
  simp only[Option.map_some,Option.some.injEq,Prod.mk.injEq] at e
  rw[←e.1,List.length_append];omega

def Xyf (rb p c:Nat) (s:ByteArray) (w:World) (e:Ending) (w':World):Prop:=
 But rb w w'∧∃t q b,e= .returned (.string t)∧t.size≤1∧p≤q∧SjAt w' rb s q b c∧((∃x,Z1 s.data.toList p=some (x,q)∧b=false∧t=txt [UInt8.ofNat x])∨(Z1 s.data.toList p=none∧b=true))
def Xyg (rb p c:Nat) (s:ByteArray) (w:World) (e:Ending) (w':World):Prop:=
 But rb w w'∧∃t q b,e= .returned (.string t)∧t.size≤60∧p≤q∧SjAt w' rb s q b c∧((∃l,txJ s.data.toList p=some (l,q)∧l.length≤60∧t=txt l∧b=false)∨(b=true∧TxNo s.data.toList p))
set_option maxRecDepth 100000 in
theorem Xkw {rb p c : Nat} {s : ByteArray} {w : World} (h : SjAt w rb s p false c) (hs : s.size ≤ 4000) :
  Calls Tryz.prog 153 #[.pointer (some ⟨rb,0,none⟩)] w (Xyf rb p c s w):=by
 have H:=Xa h
 have HLN:=Xa (Xm s)
 have hle:=h.le
 clear h
 go_enter Tryz.func153,Tryz.ntmps153
 go_wp2_with fail
 go_loopw [5] (fun i wr=>∃k:Nat,k≤8∧i= .int .i64 k∧SjAt wr rb s p false c∧But rb w wr∧Hid (∀j,j<k→Xe s.data.toList p (escNm.getD j 0).toNat=false)) (fun i _=>8-(intOf i).toNat)
 case atStart=>exact ⟨0,by omega,rfl,H.out,But.refl _ _,fun j hj=>by omega⟩
 case round =>
  obtain ⟨k,hk,rfl,hsc,hbt,HM⟩:=hrel
  have HS:=Xa hsc
  have HB:=Xa hbt
  clear hsc hbt
  by_cases hlt:k<8
  ·have hlt':(k:Int)<8:=by omega
   have x1:=Xd1 (P:=Tryz.prog) (t:=9) (s:=ByteArray.mk #[34,92,47,98,102,110,114,116]) Tryz.underlying9 hlt (Xsh hlt)
   have x2:=Xd1 (P:=Tryz.prog) (t:=9) (s:=ByteArray.mk #[34,92,47,8,12,10,13,9]) Tryz.underlying9 hlt (Xsi hlt)
   cases hat:Xe s.data.toList p (escNm.getD k 0).toNat
   ·have HC:=Xa (Xd0 (u:=txt [escNm.getD k 0]) HS.out hs (by rw[Xo];simp) (.inr (by rw[Xz,Jd];exact hat)))
    have HM':Hid (∀j,j<k+1→Xe s.data.toList p (escNm.getD j 0).toNat=false):=fun j hj=>by
     by_cases e:j=k
     ·rw[e];exact hat
     ·exact HM.out j (by omega)
    clear hat
    go_wp2_with fail
    refine HC.out.mono ?_
    rintro e w1 ⟨rfl,hsc,hb1⟩
    have HS1:=Xa hsc
    have HB1:=Xa (HB.out.trans hb1)
    clear hsc hb1
    go_wp2_with fail
    go_roundw
    case rel=>exact ⟨k+1,by omega,by go_num,HS1.out,HB1.out,HM'⟩
    case measure=>simp[intOf];omega
   ·have HC:=Xa (Xcn (u:=txt [escNm.getD k 0]) HS.out hs (by rw[Xo];simp) (by rw[Xz];simp) (by rw[Xz,Jd];exact hat))
    have HE:=Xa (Xv1 hlt hat)
    clear hat
    go_wp2_with fail
    refine HC.out.mono ?_
    rintro e w1 ⟨rfl,hsc,hb1⟩
    have HS1:=Xa hsc
    have HB1:=Xa (HB.out.trans hb1)
    clear hsc hb1
    go_wp2_with fail
    go_ret
    refine ⟨HB1.out,_,p+1,false,rfl,by rw[Xo];simp,Nat.le_succ p,by have:=HS1.out;rw[Xo] at this;exact this, .inl ⟨_,HE.out,rfl,by simp⟩⟩
  ·obtain rfl : k = 8 := by omega
   have hlt':¬((8:Nat):Int)<8:=by omega
   have HD0:=Xa ((Below.refl wr.heap.size wr).drew)
   have HS0:=Xa (HS.out.below HD0.out)
   have HB0:=Xa (HB.out.trans (But.of_below HD0.out))
   by_cases hu:Xe s.data.toList p 117=true
   ·have HC := Xa (Xcn (u := ⟨#[117]⟩) HS0.out hs (by show (1 : Nat) ≤ 1000; omega) (by simp) (by show Qp _ _ [117] = true; rw [Jd]; exact hu))
    obtain ⟨hp1,hp2⟩:=Xl.1 hu
    have HE:Hid (Z1 s.data.toList p=Ku s.data.toList (p+1)):=Xg5 hp1 hp2
    clear hp1 hp2 hu
    obtain ⟨P,hP⟩:∃P,p+1=P:=⟨_,rfl⟩
    have hpP:p≤P:=by omega
    have e5:p+(ByteArray.mk #[117]).size=P:=hP
    rw[e5] at HC
    rw[hP] at HE
    have hPle:P≤p+1:=by omega
    clear hP e5
    by_cases h4:s.size<P+4
    ·have h4':(s.size:Int)<(P:Int)+4:=by omega
     have d4:decide ((s.size:Int)<(P:Int)+4)=true:=by simpa using h4'
     have HN:Hid (Ku s.data.toList P=none):=Xd6 (by rw[HLN.out];exact h4)
     go_wp2_with fail
     refine wp_region_any (by kernel_rfl) ?_
     change wpAny _ _ _ _ _ _ _ (World.drew _)
     refine wpAny_ready (rs:= [0]) (by kernel_rfl) (by simp) ?_
     refine AllReady.cons rfl (fun K hK=> ?_) AllReady.nil
     go_simp
     refine hK _ _ ?_
     clear K hK
     refine wpAny_ready (rs:= [1]) (by kernel_rfl) (by simp) ?_
     refine AllReady.cons rfl (fun K hK=> ?_) AllReady.nil
     refine Jp (by kernel_rfl) 152 (.tmp 27) (.const (.string ⟨#[117]⟩)) 147 9 (by kernel_rfl) (.pointer (some ⟨rb,0,none⟩)) (.string ⟨#[117]⟩) (by kernel_rfl) (by kernel_rfl) (Xf5 _ _) HC.out ?_
     rintro e w1 ⟨rfl,hsc,hb1⟩
     refine ⟨_,rfl, ?_⟩
     go_simp
     refine hK _ _ ?_
     clear K hK
     have HS1:=Xa hsc
     have HB1:=Xa (HB0.out.trans hb1)
     have g0:=hsc.cells.1
     have g1:=hsc.cells.2.1
     clear hsc hb1 HC
     refine G9 2 rfl (by kernel_rfl) (by kernel_rfl) ?_
     simp only[List.drop]
     repeat (go_big_quiet_step (fail))
     refine wpQuiet_nil ?_
     intro _ hw'
     obtain ⟨nq,hw''⟩:=hw'
     subst hw''
     have HD2:=Xa (Xq (w:=w1) nq)
     have HS2:=Xa (HS1.out.below HD2.out)
     have HB2:=Xa (HB1.out.trans (But.of_below HD2.out))
     obtain ⟨k0,k1,k2,k3⟩:=HS2.out.cells
     have f1:=HS2.out.free 1
     have f2:=HS2.out.free 2
     generalize w1.drewN nq=W2 at HS2 HB2 HD2 k0 k1 k2 k3 f1 f2⊢
     clear nq g0 g1
     go_wp2_with fail
     go_ret
     exact ⟨HB2.out.trans (But.of_set _ _),_,P,true,rfl,Nat.zero_le _,by omega,HS2.out.setB true, .inr ⟨by rw[HE.out];exact HN.out,rfl⟩⟩
    have h4':¬(s.size:Int)<(P:Int)+4:=by omega
    have d4:decide ((s.size:Int)<(P:Int)+4)=false:=by simpa using h4'
    go_wp2_with fail
    refine wp_region_any (by kernel_rfl) ?_
    change wpAny _ _ _ _ _ _ _ (World.drew _)
    refine wpAny_ready (rs:= [0]) (by kernel_rfl) (by simp) ?_
    refine AllReady.cons rfl (fun K hK=> ?_) AllReady.nil
    go_simp
    refine hK _ _ ?_
    clear K hK
    refine wpAny_ready (rs:= [1]) (by kernel_rfl) (by simp) ?_
    refine AllReady.cons rfl (fun K hK=> ?_) AllReady.nil
    refine Jp (by kernel_rfl) 152 (.tmp 27) (.const (.string ⟨#[117]⟩)) 147 9 (by kernel_rfl) (.pointer (some ⟨rb,0,none⟩)) (.string ⟨#[117]⟩) (by kernel_rfl) (by kernel_rfl) (Xf5 _ _) HC.out ?_
    rintro e w1 ⟨rfl,hsc,hb1⟩
    refine ⟨_,rfl, ?_⟩
    go_simp
    refine hK _ _ ?_
    clear K hK
    have HS1:=Xa hsc
    have HB1:=Xa (HB0.out.trans hb1)
    have g0:=hsc.cells.1
    have g1:=hsc.cells.2.1
    clear hsc hb1 HC
    refine G9 2 rfl (by kernel_rfl) (by kernel_rfl) ?_
    simp only[List.drop]
    repeat (go_big_quiet_step (fail))
    refine wpQuiet_nil ?_
    intro _ hw'
    obtain ⟨nq,hw''⟩:=hw'
    subst hw''
    have HD2:=Xa (Xq (w:=w1) nq)
    have HS2:=Xa (HS1.out.below HD2.out)
    have HB2:=Xa (HB1.out.trans (But.of_below HD2.out))
    obtain ⟨k0,k1,k2,k3⟩:=HS2.out.cells
    have f1:=HS2.out.free 1
    have f2:=HS2.out.free 2
    generalize w1.drewN nq=W2 at HS2 HB2 HD2 k0 k1 k2 k3 f1 f2⊢
    clear nq g0 g1
    go_wp2_with fail
    have HGB:Hid (∀k (h:k<s.size),Xh s.data.toList k=s[k].toNat):=fun k h=>Xx4 h
    clear k0 k1 k2 k3 f1 f2
    go_loopw [6,7,8] (fun n i _ wr=>∃(k:Nat) (N:Int) (bb:Bool),k≤4∧i= .int .i64 k∧n= .int .i64 N∧N.natAbs<100^k∧SjAt wr rb s P bb c∧But rb w wr∧Hid ((bb=false∧0≤N∧Qk s.data.toList P k=some N.toNat)∨(bb=true∧Qk s.data.toList P k=none))) (fun _ i _ _=>4-(intOf i).toNat)
    case atStart=>exact ⟨0,0,false,by omega,rfl,rfl,by decide,HS2.out,HB2.out, .inl ⟨rfl,by omega,rfl⟩⟩
    case round =>
     obtain ⟨k,N,bb,hk,rfl,rfl,hN,hsc,hbt,HX⟩:=hrel
     have HS3:=Xa hsc
     have HB3:=Xa hbt
     obtain ⟨k0,k1,k2,k3⟩:=hsc.cells
     have f2:=hsc.free 2
     have f1:=hsc.free 1
     obtain ⟨n1,n2⟩:=Xv2 hN (by omega)
     clear hsc hbt
     by_cases hlt:k<4
     ·have hlt':(k:Int)<4:=by omega
      have hpk:P+k<s.size:=by omega
      have hpk':(P:Int)+(k:Int)<(s.size:Int):=by omega
      have e1:((P:Int)+(k:Int)).toNat=P+k:=by omega
      have HY:=Xa (HGB.out (P+k) hpk)
      obtain ⟨y,hy⟩:∃y,s[P+k]=y:=⟨_,rfl⟩
      rw[hy] at HY
      have HQ:=Xa (Xsj y)
      have HDL:=Xa (fun W:World=>Xk8 y W)
      have d1:=Xwl y
      have d2:=Xwm y
      obtain ⟨d,hd⟩:∃d,Gn y=d:=⟨_,rfl⟩
      rw[hd] at HDL HQ d1 d2
      clear hd
      have HN':=Xa (Xsk hN d2 d1)
      clear hN
      by_cases hdn:d<0
      focus
       have HXN:Hid ((true=false∧0≤16 *N+d∧Qk s.data.toList P (k+1)=some (16 *N+d).toNat)∨(true=true∧Qk s.data.toList P (k+1)=none)):=by
        refine .inr ⟨rfl, ?_⟩
        rcases HX.out with ⟨_,_,hx⟩|⟨_,hx⟩
        ·rcases HQ.out with ⟨_,hq⟩|⟨hq,_⟩
         ·exact Xhd hx (by rw[HY.out];exact hq) (by omega)
         ·omega
        ·exact Xdb hx _ (by omega)
       clear HX
       go_wp2_with fail
       go_quiet ((go_at_call 181;exact Calls.quiet_of_same (HDL.out _)))
       have HD4:=Xa (Xq (w:=wr) nq)
       have HS4:=Xa (HS3.out.below HD4.out)
       have HB4:=Xa ((HB3.out.trans (But.of_below HD4.out)).trans (But.of_set 2 (.bool true)))
       have l2:=HS4.out.cells.2.2.1
       have m2:=HS4.out.free 2
       generalize wr.drewN nq=W4 at HS4 HB4 HD4 l2 m2⊢
       clear nq k0 k1 k2 k3 f1 f2
       go_wp2_with fail
       go_roundw
       case rel=>exact ⟨k+1,16 *N+d,true,by omega,by go_num,rfl,HN'.out,HS4.out.setB true,HB4.out,(by rcases HXN.out with h|h;exact .inl h;exact .inr ⟨rfl,h.2⟩)⟩
       case measure=>simp[intOf];omega
      rotate_left
      focus
       have HXN:Hid ((bb=false∧0≤16 *N+d∧Qk s.data.toList P (k+1)=some (16 *N+d).toNat)∨(bb=true∧Qk s.data.toList P (k+1)=none)):=by
        rcases HX.out with ⟨hb,h0,hx⟩|⟨hb,hx⟩
        ·rcases HQ.out with ⟨hq,_⟩|⟨_,hq⟩
         ·omega
         ·refine .inl ⟨hb,by omega, ?_⟩
          rw[Xhc hx (by rw[HY.out];exact hq)]
          congr 1
          omega
        ·exact .inr ⟨hb,Xdb hx _ (by omega)⟩
       clear HX
       go_wp2_with fail
       go_quiet ((go_at_call 181;exact Calls.quiet_of_same (HDL.out _)))
       have HD4:=Xa (Xq (w:=wr) nq)
       have HS4:=Xa (HS3.out.below HD4.out)
       have HB4:=Xa (HB3.out.trans (But.of_below HD4.out))
       generalize wr.drewN nq=W4 at HS4 HB4 HD4⊢
       clear nq k0 k1 k2 k3 f1 f2
       go_wp2_with fail
       go_roundw
       case rel=>exact ⟨k+1,16 *N+d,bb,by omega,by go_num,rfl,HN'.out,HS4.out,HB4.out,HXN⟩
       case measure=>simp[intOf];omega
     ·obtain rfl:k=4:=by omega
      have hlt':¬((4:Nat):Int)<4:=by omega
      have e1:((P+4:Nat):Int)=(P:Int)+4:=by omega
      obtain ⟨x,hx⟩:∃x:UInt8,(x.toNat:Int)=N%128:=⟨UInt8.ofNat (N%128).toNat,by rw[UInt8.toNat_ofNat'];omega⟩
      have HXX:=Xa hx
      have hx2:bits .and .i64 N 127%256=(x.toNat:Int):=by rw[i64_and127,hx];omega
      clear hx
      obtain ⟨W3,hW3⟩:∃W3,wr.setCell ⟨rb,1,none⟩ (.int .i64 ((P:Int)+4))=W3:=⟨_,rfl⟩
      have HSP:Hid (SjAt W3 rb s (P+4) bb c):=by rw[Hid,←hW3,←e1];exact HS3.out.setP (by omega)
      have HBP:Hid (But rb w W3):=by rw[Hid,←hW3];exact HB3.out.trans (But.of_set _ _)
      clear e1
      by_cases hbig:127<N
      ·have HNO:Hid (Z1 s.data.toList p=none):=by
        rw[Hid,HE.out]
        rcases HX.out with ⟨_,h0,hx⟩|⟨_,hx⟩
        ·exact Xhe hx (by omega)
        ·exact Xen hx
       obtain ⟨W4,hW4⟩:∃W4,W3.setCell ⟨rb,2,none⟩ (.bool true)=W4:=⟨_,rfl⟩
       have HSQ:Hid (SjAt W4 rb s (P+4) true c):=by rw[Hid,←hW4];exact HSP.out.setB true
       have HBQ:Hid (But rb w W4):=by rw[Hid,←hW4];exact HBP.out.trans (But.of_set _ _)
       have l2:=HSP.out.cells.2.2.1
       have m2:=HSP.out.free 2
       have hc:=Xew x W4
       clear HX HS3 HB3
       go_wp2_with fail
       go_ret
       have HBW:=Xa ((Below.refl W4.heap.size W4).alloc (Nat.le_refl _) (.cells #[.int .u8 (x.toNat:Int)] 5))
       exact ⟨HBQ.out.trans (But.of_below HBW.out),_,P+4,true,rfl,Nat.le_refl 1,by omega,HSQ.out.below HBW.out, .inr ⟨HNO.out,rfl⟩⟩
      ·have hc:=Xew x W3
       have HYE:Hid ((∃y,Z1 s.data.toList p=some (y,P+4)∧bb=false∧ByteArray.mk #[x]=txt [UInt8.ofNat y])∨(Z1 s.data.toList p=none∧bb=true)):=by
        rcases HX.out with ⟨hb,h0,hx⟩|⟨hb,hx⟩
        ·refine .inl ⟨N.toNat, ?_,hb, ?_⟩
         ·rw[HE.out];exact Xdc (by rw[HLN.out];omega) hx (by omega)
         ·have:x=UInt8.ofNat N.toNat:=UInt8.toNat_inj.1 (by rw[UInt8.toNat_ofNat'];have:=HXX.out;omega)
          rw[←this];rfl
        ·refine .inr ⟨?_,hb⟩
         rw[HE.out];exact Xen hx
       clear HX HS3 HB3
       go_wp2_with fail
       go_ret
       have HBW:=Xa ((Below.refl W3.heap.size W3).alloc (Nat.le_refl _) (.cells #[.int .u8 (x.toNat:Int)] 5))
       exact ⟨HBP.out.trans (But.of_below HBW.out),_,P+4,bb,rfl,Nat.le_refl 1,by omega,HSP.out.below HBW.out,HYE.out⟩
   ·have HC:=Xa (Xd0 (u:=⟨#[117]⟩) HS0.out hs (by show (1:Nat)≤1000;omega) (.inr (by show Qp _ _ [117]=false;rw[Jd];simpa using hu)))
    have HE:Hid (Z1 s.data.toList p=none):=by
     by_cases hp:p<s.data.toList.length
     ·exact Xg6 hp (Xsg hp HM.out) (fun e=>hu (Xl.2 ⟨hp,e⟩))
     ·exact Xg4 (by omega)
    clear hu
    go_wp2_with fail
    refine wp_region_any (by kernel_rfl) ?_
    change wpAny _ _ _ _ _ _ _ (World.drew _)
    refine wpAny_ready (rs:= [0]) (by kernel_rfl) (by simp) ?_
    refine AllReady.cons rfl (fun K hK=> ?_) AllReady.nil
    go_simp
    refine hK _ _ ?_
    clear K hK
    refine wpAny_ready (rs:= [1]) (by kernel_rfl) (by simp) ?_
    refine AllReady.cons rfl (fun K hK=> ?_) AllReady.nil
    refine Jp (by kernel_rfl) 152 (.tmp 27) (.const (.string ⟨#[117]⟩)) 147 9 (by kernel_rfl) (.pointer (some ⟨rb,0,none⟩)) (.string ⟨#[117]⟩) (by kernel_rfl) (by kernel_rfl) (Xf5 _ _) HC.out ?_
    rintro e w1 ⟨rfl,hsc,hb1⟩
    refine ⟨_,rfl, ?_⟩
    go_simp
    refine hK _ _ ?_
    clear K hK
    have HS1:=Xa hsc
    have HB1:=Xa (HB0.out.trans hb1)
    have g0:=hsc.cells.1
    have g1:=hsc.cells.2.1
    clear hsc hb1 HC
    refine G9 2 rfl (by kernel_rfl) (by kernel_rfl) ?_
    simp only[List.drop]
    repeat (go_big_quiet_step (fail))
    refine wpQuiet_nil ?_
    intro _ hw'
    obtain ⟨nq,hw''⟩:=hw'
    subst hw''
    have HD2:=Xa (Xq (w:=w1) nq)
    have HS2:=Xa (HS1.out.below HD2.out)
    have HB2:=Xa (HB1.out.trans (But.of_below HD2.out))
    obtain ⟨k0,k1,k2,k3⟩:=HS2.out.cells
    have f1:=HS2.out.free 1
    have f2:=HS2.out.free 2
    generalize w1.drewN nq=W2 at HS2 HB2 HD2 k0 k1 k2 k3 f1 f2⊢
    clear nq g0 g1
    go_wp2_with fail
    go_ret
    exact ⟨HB2.out.trans (But.of_set _ _),_,p,true,rfl,Nat.zero_le _,Nat.le_refl p,HS2.out.setB true, .inr ⟨HE.out,rfl⟩⟩
set_option maxRecDepth 100000 in
theorem Xkx {rb p c:Nat} {s:ByteArray} {w:World} (h:SjAt w rb s p false c) (hs:s.size≤4000):
  Calls Tryz.prog 116 #[.pointer (some ⟨rb,0,none⟩)] w (Xyg rb p c s w):=by
 have H:=Xa h
 have HLN:=Xa (Xm s)
 clear h
 go_enter Tryz.func116,Tryz.ntmps116
 go_wp2_with fail
 go_loopw [3,12,16,23] (fun out _ _ _ wr=>∃(O:ByteArray) (q:Nat) (b:Bool),out= .string O∧O.size≤61∧p≤q∧SjAt wr rb s q b c∧But rb w wr∧Hid ((b=false∧O.size≤60∧TxAt s.data.toList p q O.data.toList)∨(b=true∧TxNo s.data.toList p))) (fun _ _ _ _ wr=>if badOf wr rb=true then 0 else s.size+1-placeOf wr rb)
 case atStart=>exact ⟨⟨#[]⟩,p,false,rfl,Nat.zero_le _,Nat.le_refl p,H.out,But.refl _ _, .inl ⟨rfl,Nat.zero_le _,TxAt.start _ _⟩⟩
 case round =>
  obtain ⟨O,q,b,rfl,hO,hpq,hsc,hbt,HX⟩:=hrel
  have HS:=Xa hsc
  have HB:=Xa hbt
  have hle:=hsc.le
  obtain ⟨c0,c1,c2,c3⟩:=hsc.cells
  have HM:Hid ((if badOf wr rb=true then 0 else s.size+1-placeOf wr rb)=if b=true then 0 else s.size+1-q):=by rw[Hid,hsc.badOf,hsc.placeOf]
  clear hsc hbt
  cases hb:b
  rotate_left
  ·subst hb
   have HNO:Hid (TxNo s.data.toList p):=by
    rcases HX.out with ⟨h,_⟩|⟨_,h⟩
    ·cases h
    ·exact h
   clear HX
   go_wp2_with fail
   go_ret
   exact ⟨HB.out,_,q,true,rfl,Nat.zero_le _,hpq,HS.out, .inr ⟨rfl,HNO.out⟩⟩
  subst hb
  have HTX:Hid (TxAt s.data.toList p q O.data.toList):=by
   rcases HX.out with ⟨_,_,h⟩|⟨h,_⟩
   ·exact h
   ·cases h
  have hO6:O.size≤60:=by
   rcases HX.out with ⟨_,h,_⟩|⟨h,_⟩
   ·exact h
   ·cases h
  clear HX hO
  cases h34:Xe s.data.toList q 34
  rotate_left
  ·have HC:=Xa (Xcn (u:=⟨#[34]⟩) HS.out hs (by show (1:Nat)≤1000;omega) (by simp) (by show Qp _ _ [34]=true;rw[Jd];exact h34))
   have HE:=Xa (HTX.out.end h34)
   have e5:q+(ByteArray.mk #[34]).size=q+1:=rfl
   rw[e5] at HC
   clear h34
   go_wp2_with fail
   refine HC.out.mono ?_
   rintro e w1 ⟨rfl,hsc,hb1⟩
   have HS1:=Xa hsc
   have HB1:=Xa (HB.out.trans hb1)
   clear hsc hb1
   go_wp2_with fail
   go_ret
   exact ⟨HB1.out,O,q+1,false,rfl,hO6,by omega,HS1.out, .inl ⟨_,HE.out,by rw[Xm];exact hO6,(Ql O).symm,rfl⟩⟩
  have HC:=Xa (Xd0 (u:=⟨#[34]⟩) HS.out hs (by show (1:Nat)≤1000;omega) (.inr (by show Qp _ _ [34]=false;rw[Jd];exact h34)))
  cases h92:Xe s.data.toList q 92
  rotate_left
  ·have HQ92:=Xa h92
   clear h34 h92
   go_wp2_with fail
   refine HC.out.mono ?_
   rintro e w1 ⟨rfl,hsc,hb1⟩
   have HS1:=Xa hsc
   have HB1:=Xa (HB.out.trans hb1)
   clear hsc hb1 HC
   have HC2:=Xa (Xcn (u:=⟨#[92]⟩) HS1.out hs (by show (1:Nat)≤1000;omega) (by simp) (by show Qp _ _ [92]=true;rw[Jd];exact HQ92.out))
   have e5:q+(ByteArray.mk #[92]).size=q+1:=rfl
   rw[e5] at HC2
   clear e5
   go_wp2_with fail
   refine HC2.out.mono ?_
   rintro e w2 ⟨rfl,hsc,hb2⟩
   have HS2:=Xa hsc
   have HB2:=Xa (HB1.out.trans hb2)
   clear hsc hb2 HC2
   have HC3:=Xa (Xkw HS2.out hs)
   go_wp2_with fail
   refine HC3.out.mono ?_
   rintro e w3 ⟨hb3,t,z,b3,rfl,ht,hqz,hsc,hor⟩
   have HS3:=Xa hsc
   have HB3:=Xa (HB2.out.trans hb3)
   have HT:=Xa ht
   have hzl:=hsc.le
   have l2:=hsc.cells.2.2.1
   have m2:=hsc.free 2
   obtain ⟨T,hT⟩:∃T,O++t=T:=⟨_,rfl⟩
   have hTs:T.size≤O.size+1:=by rw[←hT,ByteArray.size_append];omega
   have HFIN:Hid ((b3=false∧q<z∧TxAt s.data.toList p z T.data.toList∧O.size+1≤T.size)∨(b3=true∧TxNo s.data.toList p)):=by
    rcases hor with ⟨x,he,hb,htx⟩|⟨he,hb⟩
    ·refine .inl ⟨hb,by have:=(Wp he).1;omega, ?_, ?_⟩
     ·have:=HTX.out.esc HQ92.out he
      have e6:O.data.toList++ [UInt8.ofNat x]=T.data.toList:=by rw[←hT,htx,←Ql O,Yo,Xz,Xz]
      rw[e6] at this
      exact this
     ·rw[←hT,ByteArray.size_append,htx,Xo];simp
    ·exact .inr ⟨hb,HTX.out.noesc HQ92.out he⟩
   have HTN:=Xa hTs
   clear hsc hb3 hor HC3 hTs HT
   by_cases hbig:60<T.size
   focus
    have hbig':(60:Int)<(T.size:Int):=by omega
    have HNO:Hid (TxNo s.data.toList p):=by
     rcases HFIN.out with ⟨_,_,h,_⟩|⟨_,h⟩
     ·exact h.long (by rw[Xm];exact hbig)
     ·exact h
    clear HFIN
    go_wp2_with fail
    go_roundw
    case rel=>exact ⟨T,z,true,rfl,by have:=HTN.out;omega,by omega,HS3.out.setB true,HB3.out.trans (But.of_set _ _), .inr ⟨rfl,HNO.out⟩⟩
    case measure=>
     rw[HM.out,(HS3.out.setB true).badOf]
     simp
     omega
   rotate_left
   focus
    have hbig':¬(60:Int)<(T.size:Int):=by omega
    go_wp2_with fail
    go_roundw
    case rel=>
     refine ⟨T,z,b3,rfl,by omega,by omega,HS3.out,HB3.out, ?_⟩
     rcases HFIN.out with ⟨h,_,h2,_⟩|h
     ·exact .inl ⟨h,by omega,h2⟩
     ·exact .inr h
    case measure=>
     rw[HM.out,HS3.out.badOf,HS3.out.placeOf]
     rcases HFIN.out with ⟨h,h1,_⟩|⟨h,_⟩
     ·rw[h];simp;omega
     ·rw[h];simp;omega
  have HQ34:=Xa h34
  have HQ92:=Xa h92
  clear h34 h92
  have HSTEP:Hid (∀hq:q<s.size,32≤(s[q]).toNat→(s[q]).toNat≤127→TxAt s.data.toList p (q+1) (O.data.toList++ [s[q]])):=fun hq h1 h2=>by
   rw[byS hq] at h1 h2
   have:=HTX.out.step (by rw[HLN.out];exact hq) HQ34.out HQ92.out h1 h2
   rw[←byS hq] at this
   simpa using this
  have HBAD:Hid ((∀hq:q<s.size,(s[q]).toNat<32∨127<(s[q]).toNat)→TxNo s.data.toList p):=fun hx=>HTX.out.bad HQ34.out HQ92.out (fun hq=>by
   have h1:q<s.size:=by rw[←HLN.out];exact hq
   have:=hx h1
   rw[byS h1] at this
   exact this)
  go_wp2_with fail
  refine HC.out.mono ?_
  rintro e w1 ⟨rfl,hsc,hb1⟩
  have HS1:=Xa hsc
  have HB1:=Xa (HB.out.trans hb1)
  clear hsc hb1 HC
  have HC2:=Xa (Xd0 (u:=⟨#[92]⟩) HS1.out hs (by show (1:Nat)≤1000;omega) (.inr (by show Qp _ _ [92]=false;rw[Jd];exact HQ92.out)))
  go_wp2_with fail
  refine HC2.out.mono ?_
  rintro e w2 ⟨rfl,hsc,hb2⟩
  have HS2:=Xa hsc
  have HB2:=Xa (HB1.out.trans hb2)
  clear c0 c1 c2 c3
  obtain ⟨c0,c1,c2,c3⟩:=hsc.cells
  clear hsc hb2 HC2
  by_cases hq:q<s.size
  focus
   have hq':(q:Int)<(s.size:Int):=by omega
   have dq:decide ((q:Int)<(s.size:Int))=true:=by simpa using hq'
   have eq:((q:Int)).toNat=q:=by omega
   obtain ⟨y,hy⟩:∃y,s[q]=y:=⟨_,rfl⟩
   have hone:=Xd1 (P:=Tryz.prog) (t:=9) Tryz.underlying9 hq hy
   have HSTEP':Hid (32≤y.toNat→y.toNat≤127→TxAt s.data.toList p (q+1) (O.data.toList++ [y])):=by rw[Hid,←hy];exact HSTEP.out hq
   have HBAD':Hid (y.toNat<32∨127<y.toNat→TxNo s.data.toList p):=fun hx=>HBAD.out (fun hq=>by rw[hy];exact hx)
   have hyl:y.toNat<256:=y.toNat_lt
   clear HSTEP HBAD
   by_cases h32:32≤y.toNat
   focus
    have d32:decide ((32:Int)≤(y.toNat:Int))=true:=by simp;omega
    by_cases h127:y.toNat≤127
    focus
     have d127:decide ((y.toNat:Int)≤127)=true:=by simp;omega
     have HT2:=Xa (HSTEP'.out h32 h127)
     clear HSTEP' HBAD'
     obtain ⟨T,hT⟩:∃T,O++txt [y]=T:=⟨_,rfl⟩
     have hTs:T.size=O.size+1:=by rw[←hT,ByteArray.size_append,Xo];simp
     have HTD:Hid (O.data.toList++ [y]=T.data.toList):=by rw[Hid,←hT,←Ql O,Yo,Xz,Xz]
     have HTS:=Xa hTs
     rw[HTD.out] at HT2
     have hty:(txt [y]).size=1:=Xo [y]
     clear hTs h32 h127
     go_wp2_with fail
     go_quiet (fail)
     have HD3:=Xa (Xq (w:=w2) nq)
     have HS3:=Xa (HS2.out.below HD3.out)
     have HB3:=Xa (HB2.out.trans (But.of_below HD3.out))
     clear c0 c1 c2 c3
     obtain ⟨c0,c1,c2,c3⟩:=HS3.out.cells
     generalize w2.drewN nq=W3 at HS3 HB3 HD3 c0 c1 c2 c3⊢
     clear nq
     go_wp2_with fail
     go_quiet (fail)
     have HD4:=Xa (Xq (w:=W3) nq)
     have HS4:=Xa (HS3.out.below HD4.out)
     have HB4:=Xa (HB3.out.trans (But.of_below HD4.out))
     clear c0 c1 c2 c3
     obtain ⟨c0,c1,c2,c3⟩:=HS4.out.cells
     have f1:=HS4.out.free 1
     generalize W3.drewN nq=W4 at HS4 HB4 HD4 c0 c1 c2 c3 f1⊢
     clear nq
     have e1:((q+1:Nat):Int)=(q:Int)+1:=by omega
     obtain ⟨W5,hW5⟩:∃W5,W4.setCell ⟨rb,1,none⟩ (.int .i64 ((q:Int)+1))=W5:=⟨_,rfl⟩
     have HS5:Hid (SjAt W5 rb s (q+1) false c):=by rw[Hid,←hW5,←e1];exact HS4.out.setP hq
     have HB5:Hid (But rb w W5):=by rw[Hid,←hW5];exact HB4.out.trans (But.of_set _ _)
     have l2:=HS5.out.cells.2.2.1
     have m2:=HS5.out.free 2
     clear e1
     by_cases hbig:60<T.size
     focus
      have hbig':(60:Int)<(T.size:Int):=by omega
      have HNO:=Xa (HT2.out.long (by rw[Xm];exact hbig))
      go_wp2_with fail
      go_roundw
      case rel=>exact ⟨T,q+1,true,rfl,by have:=HTS.out;omega,by omega,HS5.out.setB true,HB5.out.trans (But.of_set _ _), .inr ⟨rfl,HNO.out⟩⟩
      case measure=>
       rw[HM.out,(HS5.out.setB true).badOf]
       simp
       omega
     rotate_left
     focus
      have hbig':¬(60:Int)<(T.size:Int):=by omega
      go_wp2_with fail
      go_roundw
      case rel=>exact ⟨T,q+1,false,rfl,by omega,by omega,HS5.out,HB5.out, .inl ⟨rfl,by omega,HT2.out⟩⟩
      case measure=>
       rw[HM.out,HS5.out.badOf,HS5.out.placeOf]
       simp;omega
    rotate_left
    focus
     have d127:decide ((y.toNat:Int)≤127)=false:=by simp;omega
     have HNO:=Xa (HBAD'.out (.inr (by omega)))
     clear HSTEP' HBAD' h32 h127
     go_wp2_with fail
     go_quiet (fail)
   rotate_left
   focus
    have d32:decide ((32:Int)≤(y.toNat:Int))=false:=by simp;omega
    have HNO:=Xa (HBAD'.out (.inl (by omega)))
    clear HSTEP' HBAD' h32
    go_wp2_with fail
    go_quiet (fail)
  rotate_left 2
  focus
   have dq:decide ((q:Int)<(s.size:Int))=false:=by simp;omega
   have HNO:=Xa (HBAD.out (fun h=>absurd h hq))
   clear HSTEP HBAD
   go_wp2_with fail
   go_quiet (fail)
  all_goals
   have HD3:=Xa (Xq (w:=w2) nq)
   have HS3:=Xa (HS2.out.below HD3.out)
   have HB3:=Xa (HB2.out.trans (But.of_below HD3.out))
   clear c0 c1 c2 c3
   obtain ⟨c0,c1,c2,c3⟩:=HS3.out.cells
   have f2:=HS3.out.free 2
   generalize w2.drewN nq=W3 at HS3 HB3 HD3 c0 c1 c2 c3 f2⊢
   clear nq
   have hO6':¬(60:Int)<(O.size:Int):=by omega
   go_wp2_with fail
   go_roundw
   case rel=>exact ⟨O,q,true,rfl,by omega,hpq,HS3.out.setB true,HB3.out.trans (But.of_set _ _), .inr ⟨rfl,HNO.out⟩⟩
   case measure=>
    rw[HM.out,(HS3.out.setB true).badOf]
    simp
    omega
end Go.Proofs.YtehihemfepbmfaaGreatDoor
