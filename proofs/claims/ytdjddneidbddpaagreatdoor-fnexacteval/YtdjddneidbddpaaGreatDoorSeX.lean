import Derived.Test.YtdjddneidbddpaaGreatDoorSeD20
import Derived.Test.YtdjddneidbddpaaGreatDoorEvV
namespace Go.Proofs.YtdjddneidbddpaaGreatDoor
set_option linter.unusedSectionVars false
set_option maxHeartbeats 6400000
open Go.RowKit
set_option linter.unusedSimpArgs false
set_option linter.unusedVariables false
def Xqr (B E d:Nat) (fv:Value) (fs:List FN) (R:Int×Xt) (G:Option Nat) (bO:Nat) (w:World) (e:Ending) (w':World):Prop:=
 ∃sv xs m c fu,e= .returned sv∧SE B E fv fs fu c w'∧FrX E G w w'∧LR E bO w' sv xs m∧(sv.ownBlock=G∨∀y,sv.ownBlock=some y→w.heap.size≤y)∧Now R Xy c fu m∧m.length≤41∧fu≤d
def Xjs (B E d:Nat) (fv:Value) (fs:List FN) (x:FN) (mm:Nat):Prop:=∀(kc kn ki v:Value) (ns:List VN) (done out:List (List VN)) (dv ov:Value) (dxs oxs:List Value) (bD bO fu:Nat) (w:World),done.length+mm=x.kids.length→FNodeIn B w x kc kn ki→SE B E fv fs fu 0 w→NR E w v ns→LR E bD w dv dxs done→LR E bO w ov oxs out→(dv.ownBlock=none∨dv.ownBlock≠ov.ownBlock)→out.length≤40→fu≤d→bO≤w.heap.size→
 Calls Tryz.prog 76 #[.pointer (some ⟨E,0,none⟩),Ya x kc kn ki,v,dv,ov] w (Xqr B E d fv fs (Z6 (Xf fs d) x.names ns Xk (x.kids.drop done.length) done (fu,out)) ov.ownBlock bO w)
set_option maxRecDepth 100000 in
theorem Xza {B E d:Nat} {fv:Value} {fs:List FN} {x:FN} (hx:NodeOk fs x) (k9:x.kind=9):Xjs B E d fv fs x 0:=by
 intro kc kn ki v ns done out dv ov dxs oxs bD bO fu w hmm hin hs hv hld hlo hap ho40 hfu hbO
 obtain ⟨m1,m2⟩:=hx.map k9
 have hE:=hs.lt
 have hBE:=hs.hBE
 obtain ⟨_,aC,cC,rfl,_⟩:=id hin.cst
 obtain ⟨_,_,aK,cK,rfl,_⟩:=id hin.names
 obtain ⟨_,_,aI,cI,rfl,_⟩:=id hin.kids
 have e9:Z6 (Xf fs d) x.names ns Xk (x.kids.drop done.length) done (fu,out)=Xv (Yu (Xdb x.names done)) Xk (fu,out):=by
  rw[show done.length=x.kids.length by omega,List.drop_length];rfl
 rw[e9]
 obtain ⟨r9,hr9⟩:∃r9,Yu (Xdb x.names done)=r9:=⟨_,rfl⟩
 have HR9:Hid (Yu (Yn 6 x.names (Xl done) done.length)=r9):=hr9
 obtain ⟨R,hR⟩:∃R,Xv r9 Xk (fu,out)=R:=⟨_,rfl⟩
 rw[hr9,hR]
 have HNR:Hid (Now R Xy (Y6 r9.1 (out.length+(Y0 r9).length)) fu (out++Y0 r9)):=Uq ho40 (by rw[Xa1,hR])
 have HL1:=Xa (Vm r9)
 obtain ⟨W2,hW2⟩:∃W2,w.alloc (.cells #[.int .i64 x.kind, .string x.name, .int .i64 x.place, .slice aC x.cst.length cC, .slice aK x.names.length cK, .slice aI x.kids.length cI] 84)=W2:=⟨_,rfl⟩
 have g2:W2.heap.size=w.heap.size+1:=by rw[←hW2];simp
 have hb2:Below w.heap.size w W2:=by rw[←hW2];exact (Below.refl _ _).alloc (Nat.le_refl _) _
 have hblk:W2.heap[w.heap.size]? =some (.cells #[.int .i64 x.kind, .string x.name, .int .i64 x.place, .slice aC x.cst.length cC, .slice aK x.names.length cK, .slice aI x.kids.length cI] 84 (0,0)):=by rw[←hW2];exact heap_alloc_new w _
 have y4:W2.cell? ⟨w.heap.size,4,none⟩=some (.slice aK x.names.length cK):=Xg hblk 4
 have y5:W2.cell? ⟨w.heap.size,5,none⟩=some (.slice aI x.kids.length cI):=Xg hblk 5
 have HB2:=Xa hb2
 have HS2:=Xa (hs.below hb2)
 have HLO2:=Xa (hlo.keepB hb2)
 have hnm:=(hin.names.below (hb2.mono (by omega)))
 have HMK:=Xa (Xaq (kind:=6) (by decide) (by decide) (hld.keepB hb2) (by omega) hnm (by omega) (by omega) hnm.2.1)
 have HE:=Xa hE
 obtain ⟨ao,co,eov⟩:=hlo.slice
 obtain ⟨ad,cd,edv⟩:=hld.slice
 obtain ⟨av,cv,evv⟩:=hv.slice
 subst eov edv evv
 obtain ⟨OL,hO⟩:∃OL,out.length=OL:=⟨_,rfl⟩
 have HOL:=Xa hO
 obtain ⟨DL,hD⟩:∃DL,done.length=DL:=⟨_,rfl⟩
 have HDL:=Xa hD
 obtain ⟨NN,hNN⟩:∃NN,x.names.length=NN:=⟨_,rfl⟩
 obtain ⟨LN,hLN⟩:∃LN,ns.length=LN:=⟨_,rfl⟩
 have hkl:x.kids.length=DL:=by omega
 rw[hD,hNN] at HMK
 rw[hO] at HLO2 ho40
 rw[hNN] at y4 hW2
 rw[hkl] at y5 hW2
 unfold Ya
 rw[hO,hD,hNN,hkl,hLN]
 have HG2:=Xa g2
 obtain ⟨i0,hi0,hz0,hs0,hy0⟩:=info_parts Qu
 have hoL:=hlo.row.lt
 have HOW:=Xa hoL
 clear hmm hin hs hv hld hlo hap hx k9 m1 m2 e9 hr9 hR hb2 hblk hnm hE hO hD hNN hLN hkl hoL
 go_enter Tryz.func76,Tryz.ntmps76
 go_wp2_with fail
 refine HMK.out.mono ?_
 rintro e w5 ⟨u,KV5,IV5,rfl,hn5,hb5,hl5,hf5⟩
 have HRT:=Xa (Uz (E:=E) hn5 (by have:=HE.out;have:=HG2.out;omega) (by omega) hf5)
 rw[←HDL.out,HR9.out] at HRT
 have HB5:=Xa (HB2.out.trans (hb5.mono (by have:=HG2.out;omega)))
 have HS5:=Xa (HS2.out.below hb5)
 have HLO5:=Xa (HLO2.out.keepB hb5)
 have z5:=hb5.size
 obtain ⟨a5,c5,e5⟩:=Xj hn5.row
 obtain ⟨L5,hL5⟩:∃L5,(Yn 6 x.names (Xl done) DL).length=L5:=⟨_,rfl⟩
 rw[hL5] at e5
 subst e5
 clear hn5 hb5 hl5 hf5 hL5
 go_wp2_with fail
 refine HRT.out.mono ?_
 rintro e w6 ⟨u6,rfl,⟨a6,l6,c6,rfl⟩,hnr,hb6⟩
 have HB6:=Xa (HB5.out.trans (hb6.mono (by have:=HB5.out.size;omega)))
 have HLO6:=Xa (HLO5.out.keepB hb6)
 have HCO:=Xa (Xab (HS5.out.below hb6) ⟨a6,l6,c6,rfl⟩ hnr)
 obtain ⟨rc,hrc⟩:∃rc,r9.1=rc:=⟨_,rfl⟩
 rw[hrc] at HCO HNR⊢
 clear hnr hb6 hrc
 go_wp2_with fail
 refine HCO.out.mono ?_
 rintro e w8 ⟨sv8,xs8,rfl,hs8,hb8,hl8⟩
 have HFX8:Hid (FrX E (Value.slice ao OL co).ownBlock w w8):=((ButE.of_below HB6.out).trans hb8).frx _
 have hlo8:=HLO6.out.keep hb8
 have hrow8:=hlo8.row
 rw[HOL.out] at hrow8
 have hlen8:=hl8.len
 have hone8:=hl8.ones
 have hin8:=hl8.inn
 obtain ⟨a8,c8,rfl⟩:=hl8.slice
 have hsrc8:=hl8.src
 have hz8:=HFX8.out.keep.size
 obtain ⟨m8,hm8⟩:∃m8,Y0 r9=m8:=⟨_,rfl⟩
 have hm81:m8.length≤1:=by rw[←hm8];exact HL1.out
 rw[hm8] at HNR hlen8 hin8 hsrc8⊢
 clear hm8
 go_wp2_with (at_builtin;refine Ye rfl _ _ 28 rfl bO 25 i0 (.slice none 0 0) 1 24 Tryz.underlying28 hi0 hz0 hs0 hy0 rfl (by decide) _ OL oxs rfl hrow8 a8 m8.length c8 xs8 rfl (by rw[hlen8,Nat.mul_one]) hsrc8 hone8 (by unfold maxLen;omega) (by omega) (by omega) ?_)
 intro v9 w9 hown9 hg9 hat9
 have HOB9:Hid (v9.ownBlock=(Value.slice ao OL co).ownBlock∨∀y,v9.ownBlock=some y→w.heap.size≤y):=by
  rcases hat9 with e|e
  ·exact .inl e
  ·exact .inr (fun y hy=>by rw[e] at hy;cases hy;exact hz8)
 have HS9:=Xa (hs8.grown hlo8.row hlo8.lo hg9)
 rw[←HOL.out] at hown9
 obtain ⟨hlr9,hfx9⟩:=hlo8.append hlen8 hin8 hown9 hg9
 have HLR9:=Xa hlr9
 have HFX9:Hid (FrX E (Value.slice ao OL co).ownBlock w w9):=HFX8.out.trans hfx9 (.inl rfl)
 have HFW:Hid ((out++m8).length≤41):=by unfold Hid;rw[List.length_append,HOL.out];omega
 obtain ⟨a9,c9,e9⟩:=Xj hown9
 rw[HOL.out] at e9
 obtain ⟨OL9,hO9⟩:∃OL9,OL+m8.length=OL9:=⟨_,rfl⟩
 rw[HOL.out,hO9] at HNR
 rw[hO9] at e9
 subst e9
 clear hown9 hg9 hat9 hlr9 hfx9 hlen8 hin8 hone8 hrow8 hsrc8 hs8 hb8 hl8 hlo8 hO9
 go_wp2_with fail
 refine (Zc a9 OL9 c9 HS9.out).mono ?_
 rintro e w10 ⟨rfl,hs10,hb10⟩
 have HS10:=Xa hs10
 have HFX10:Hid (FrX E (Value.slice ao OL co).ownBlock w w10):=HFX9.out.trans (hb10.frx _) (.inl rfl)
 have HLR10:=Xa (HLR9.out.keep hb10)
 clear hs10 hb10
 go_wp2_with fail
 go_ret
 exact ⟨.slice a9 OL9 c9,_,_,_,fu,rfl,HS10.out,HFX10.out,HLR10.out,HOB9.out,HNR.out,HFW.out,hfu⟩
end Go.Proofs.YtdjddneidbddpaaGreatDoor
