import Derived.Test.YtehihemfepbmfaaGreatDoorSDig
import Derived.Test.YtehihemfepbmfaaGreatDoorBld
import Derived.Test.YtehihemfepbmfaaGreatDoorUneP
import Derived.Test.YtehihemfepbmfaaGreatDoorIxB
namespace Go.Proofs.YtehihemfepbmfaaGreatDoor
set_option linter.unusedSectionVars false
set_option maxHeartbeats 3200000
open Go.RowKit Go.WideShapes
set_option linter.unusedSimpArgs false
set_option linter.unusedVariables false
theorem Xl3 {n:Nat} (h:n<16):(ByteArray.mk #[48,49,50,51,52,53,54,55,56,57,97,98,99,100,101,102])[n]'h=Vh n:=by
 show hexS[n]'h=hexS.getD n 0
 rw[List.getD,List.getElem?_eq_getElem (show n<hexS.length from h)];rfl
structure WrQ (w:World) (l:List UInt8) (wr:World):Prop where
 bld:Xa3 w.heap.size w.heap.size l wr
 bel:Below w.heap.size w wr
theorem WrQ.byte {w wr:World} {l:List UInt8} (h:WrQ w l wr) (x:UInt8) (hlen:l.length+1≤140737488355328):
  Calls Tryz.prog 131 #[.pointer (some ⟨w.heap.size,0,none⟩), .int .u8 (x.toNat:Int)] wr fun e w'=>e= .returned .nilIface∧WrQ w (l++ [x]) w':=by
 refine (Xr7 h.bld x hlen h.bel.size).mono ?_
 rintro e w' ⟨rfl,h1,h2,_⟩
 exact ⟨rfl,h1,h.bel.trans h2⟩
theorem WrQ.text {w wr:World} {l:List UInt8} (h:WrQ w l wr) (s:ByteArray) (hlen:l.length+s.size≤140737488355328):
  Calls Tryz.prog 92 #[.pointer (some ⟨w.heap.size,0,none⟩), .string s] wr fun e w'=>e= .returned (.tuple #[.int .i64 s.size, .nilIface])∧WrQ w (l++s.data.toList) w':=by
 refine (Xr8 h.bld s hlen h.bel.size).mono ?_
 rintro e w' ⟨rfl,h1,h2,_⟩
 exact ⟨rfl,h1,h.bel.trans h2⟩
theorem WrQ.done {w wr:World} {l:List UInt8} (h:WrQ w l wr):
  Calls Tryz.prog 24 #[.pointer (some ⟨w.heap.size,0,none⟩)] wr fun e w'=>e= .returned (.string (txt l))∧Below w.heap.size w w':=by
 refine (Xmt h.bld h.bel.size).mono ?_
 rintro e w' ⟨rfl,_,h2,_⟩
 exact ⟨rfl,h.bel.trans h2⟩
theorem Xwg (w:World):WrQ w [] (w.alloc (.cells #[.pointer none, .slice none 0 0] 40)):=⟨Xvw w,(Below.refl _ _).alloc (Nat.le_refl _) _⟩
theorem Xwh:∀n:Fin 256,(∃i:Fin 7,Go.Lib.indexByte Xka (UInt8.ofNat n.val)=(i.val:Int)∧Ks (UInt8.ofNat n.val)= [92,quoL.getD i.val 0])∨(Go.Lib.indexByte Xka (UInt8.ofNat n.val)= -1∧Ks (UInt8.ofNat n.val)=if UInt8.ofNat n.val<32∨UInt8.ofNat n.val=127 then [92,117,48,48,Vh (n.val/16),Vh (n.val%16)] else [UInt8.ofNat n.val]):=by decide+kernel
theorem Xyd (c:UInt8):(∃i:Nat,i<7∧Go.Lib.indexByte Xka c=(i:Int)∧Ks c= [92,quoL.getD i 0])∨(Go.Lib.indexByte Xka c= -1∧Ks c=if c<32∨c=127 then [92,117,48,48,Vh (c.toNat/16),Vh (c.toNat%16)] else [c]):=by
 have h:=Xwh ⟨c.toNat,c.toNat_lt⟩
 simp only[UInt8.ofNat_toNat] at h
 rcases h with ⟨i,h1,h2⟩|h
 ·exact .inl ⟨i.val,i.isLt,h1,h2⟩
 ·exact .inr h
theorem Xye {i:Nat} (h:i<7):(ByteArray.mk #[34,92,98,116,110,102,114])[i]'h=quoL.getD i 0:=by
 show quoL[i]'h=quoL.getD i 0
 rw[List.getD,List.getElem?_eq_getElem (show i<quoL.length from h)];rfl
set_option maxRecDepth 100000 in
theorem Xit (s:ByteArray) (w:World) (hs:s.size≤16777216):Calls Tryz.prog 165 #[.string s] w fun e w'=>e= .returned (.string (txt (Gp s)))∧Below w.heap.size w w':=by
 go_enter Tryz.func165,Tryz.ntmps165
 go_wp2_with (go_at_call 131;refine ((Xwg w).byte 34 (by simp)).mono ?_;rintro e w0 ⟨rfl,h0⟩;have H0:=Xa h0;clear h0)
 go_loopw [10] (fun i wr=>∃k:Nat,k≤s.size∧i= .int .i64 k∧WrQ w (34::quo (s.data.toList.take k)) wr) (fun i _=>s.size-(intOf i).toNat)
 case atStart=>exact ⟨0,Nat.zero_le _,rfl,H0.out⟩
 case round =>
  obtain ⟨k,hk,rfl,hwr⟩:=hrel
  by_cases hlt:k<s.size
  ·have hl:=Xdl s.data.toList k
   have HS:Hid (34::quo (s.data.toList.take (k+1))=(34::quo (s.data.toList.take k))++Ks (s.data.toList[k]'(by rw[Xm];exact hlt))):=by rw[Hid,Xj9 s.data.toList k (by rw[Xm];exact hlt)];rfl
   have hl':(34::quo (s.data.toList.take k)).length≤6 *s.data.toList.length+1:=by rw[List.length_cons];omega
   obtain ⟨o,ho⟩:∃o,34::quo (s.data.toList.take k)=o:=⟨_,rfl⟩
   rw[ho] at HS hl' hwr
   clear ho hl
   rw[Xm] at hl'
   rw[Xor hlt] at HS
   obtain ⟨c,hc⟩:∃c,s[k]=c:=⟨_,rfl⟩
   rw[hc] at HS
   have hn:c.toNat<256:=c.toNat_lt
   have CX:=Xa (fun w=>Vl ⟨#[34,92,8,9,10,12,13]⟩ c w)
   rw[show (ByteArray.mk #[34,92,8,9,10,12,13]).data.toList=Xka from rfl] at CX
   rcases Xyd c with ⟨i,hi,hix,hq⟩|⟨hix,hq⟩
   ·rw[hix] at CX
    have HE:=Xa hq
    have hi':(i:Int)<7:=by omega
    have hla:=Xye hi
    obtain ⟨y,hy⟩:∃y,quoL.getD i 0=y:=⟨_,rfl⟩
    rw[hy] at HE hla
    clear hq hy hix
    go_wp2_with (go_at_call 109;refine (CX.out _).mono ?_;rintro e w1 ⟨rfl,h1⟩;subst w1)
    refine (hwr.byte 92 (by omega)).mono ?_
    rintro e w1 ⟨rfl,h1⟩
    go_wp2_with fail
    refine (h1.byte y (by simp;omega)).mono ?_
    rintro e w2 ⟨rfl,h2⟩
    go_wp2_with fail
    refine ⟨⟨k+1,by omega,by go_num, ?_⟩,by simp[intOf];omega⟩
    rw[HS.out,HE.out]
    simpa using h2
   ·rw[hix] at CX
    by_cases hp:c<32∨c=127
    ·rw[if_pos hp] at hq
     have HE:=Xa hq
     have p1:((c.toNat:Int)<32)∨(c.toNat:Int)=127:=by
      rcases hp with h|h
      ·exact .inl (by have:c.toNat<32:=UInt8.lt_iff_toNat_lt.1 h;omega)
      ·exact .inr (by subst h;rfl)
     clear hq hix hp
     have hw1:=Xr1 c
     have hw2:=Xr2 c
     have x1:=Xl3 (n:=c.toNat/16) (by omega)
     have x2:=Xl3 (n:=c.toNat%16) (by omega)
     have y1:((c.toNat:Int)/16).toNat=c.toNat/16:=by omega
     have y2:((c.toNat:Int)%16).toNat=c.toNat%16:=by omega
     rcases p1 with p1|p1
     ·go_wp2_with (first|(go_at_call 109;refine (CX.out _).mono ?_;rintro e w1 ⟨rfl,h1⟩;subst w1)|(go_at_call 92;refine (hwr.text ⟨#[92,117,48,48]⟩ (by show o.length+4≤_;omega)).mono ?_;rintro e w1 ⟨rfl,h1⟩))
      refine (h1.byte _ (by simp;omega)).mono ?_
      rintro e w2 ⟨rfl,h2⟩
      go_wp2_with fail
      refine (h2.byte _ (by simp;omega)).mono ?_
      rintro e w3 ⟨rfl,h3⟩
      go_wp2_with fail
      refine ⟨⟨k+1,by omega,by go_num, ?_⟩,by simp[intOf];omega⟩
      rw[HS.out,HE.out]
      simpa using h3
     ·obtain rfl:c=127:=UInt8.toNat_inj.1 (by show c.toNat=127;omega)
      go_wp2_with (first|(go_at_call 109;refine (CX.out _).mono ?_;rintro e w1 ⟨rfl,h1⟩;subst w1)|(go_at_call 92;refine (hwr.text ⟨#[92,117,48,48]⟩ (by show o.length+4≤_;omega)).mono ?_;rintro e w1 ⟨rfl,h1⟩))
      refine (h1.byte 55 (by simp;omega)).mono ?_
      rintro e w2 ⟨rfl,h2⟩
      go_wp2_with fail
      refine (h2.byte 102 (by simp;omega)).mono ?_
      rintro e w3 ⟨rfl,h3⟩
      go_wp2_with fail
      refine ⟨⟨k+1,by omega,by go_num, ?_⟩,by simp[intOf];omega⟩
      rw[HS.out,HE.out]
      simpa [Vh,hexS] using h3
    ·rw[if_neg hp] at hq
     have HE:=Xa hq
     have p1:¬(c.toNat:Int)<32:=fun h=>hp (.inl (UInt8.lt_iff_toNat_lt.2 (by show c.toNat<32;omega)))
     have p2:¬(c.toNat:Int)=127:=Wi (fun h=>hp (.inr h))
     have b127:((c.toNat:Int)==127)=false:=by simpa using p2
     clear hq hix hp
     go_wp2_with (first|(go_at_call 109;refine (CX.out _).mono ?_;rintro e w1 ⟨rfl,h1⟩;subst w1)|(go_at_call 131;refine (hwr.byte c (by omega)).mono ?_;rintro e w1 ⟨rfl,h1⟩))
     refine ⟨⟨k+1,by omega,by go_num, ?_⟩,by simp[intOf];omega⟩
     rw[HS.out,HE.out]
     exact h1
  ·obtain rfl:k=s.size:=by omega
   have hl:=Xdz s.data.toList
   have HL:=Xa (show s.data.toList.take s.size=s.data.toList by rw[←Xm,List.take_length])
   rw[HL.out] at hwr
   rw[Xm] at hl
   go_wp2_with (first|(go_at_call 131;refine (hwr.byte 34 (by simp;omega)).mono ?_;rintro e w1 ⟨rfl,h1⟩)|(go_at_call 24;refine h1.done.mono ?_;rintro e w2 ⟨rfl,h2⟩))
   go_ret
   exact ⟨rfl,h2⟩
end Go.Proofs.YtehihemfepbmfaaGreatDoor
