import Derived.Test.YtdjddneidbddpaaGreatDoorMkH
import Derived.Test.YtdjddneidbddpaaGreatDoorLowN
import Derived.Test.YtdjddneidbddpaaGreatDoorIParts
import Derived.Test.YtdjddneidbddpaaGreatDoorIEv
import Derived.Test.YtdjddneidbddpaaGreatDoorSEv
namespace Go.Proofs.YtdjddneidbddpaaGreatDoor
set_option linter.unusedSectionVars false
set_option maxHeartbeats 6400000
open Go.RowKit
set_option linter.unusedSimpArgs false
set_option linter.unusedVariables false
theorem From.rest {base lo:Nat} {a w w':World} (h:From base a w) (hs:w.heap.size≤w'.heap.size) (hr:∀x,lo≤x→x<w.heap.size→w'.heap[x]? =w.heap[x]?) (hl:lo≤base):From base a w':=
 ⟨Nat.le_trans h.1 hs,fun c h1 h2=>(hr c (by omega) (by have:=h.1;omega)).trans (h.2 c h1 h2)⟩
theorem Below.nextE {A:Nat} {a b c:World} (h:Below A a b) (h2:Below b.heap.size b c) (hA:A≤b.heap.size):Below A a c:=h.trans (h2.mono hA)
theorem Xy9 (fs:List FN) (vs:List VN) (fuel:Int) (h1: -9223372036854775808≤fuel) (h2:fuel≤9223372036854775807):∃(C:Int) (N:Nat) (R:Nat→List VN),N≤80∧(∀i,i<N→Few (R i)∧∀j,j<(R i).length→Fits (Xb (R i) j))∧
  (∀fv v w,FNodesAt w.heap.size w fv fs→NodesAt w.heap.size w v vs→Calls Tryz.prog 8 #[fv,v, .int .i64 fuel] w fun e w'=>∃r base rs KV IV lo,e= .returned (.tuple #[r, .int .i64 C])∧w.heap.size≤base∧Rows2 base w' r N R rs KV IV lo∧Below w.heap.size w w')∧
  (∀fv v w,FNodesAt w.heap.size w fv fs→NodesAt w.heap.size w v vs→Errs4 w→Calls Tryz.prog 7 #[fv,v, .int .i64 fuel] w fun e w'=>∃r base rs KV IV lo,e= .returned (.tuple #[r, .int .i64 C])∧w.heap.size≤base∧Rows2 base w' r N R rs KV IV lo∧Below w.heap.size w w'):=by
 refine ⟨Xbk fs vs fuel,(Ke fs vs fuel).length,Xl (Ke fs vs fuel),Nat.le_trans Xf3 (by omega),fun i hi=> ?_,fun fv v w hf hv=>Xoz fv v fs vs fuel w hf hv h1 h2,fun fv v w hf hv hE=>Xp7 fv v fs vs fuel w hf hv hE h1 h2⟩
 have hm:Xl (Ke fs vs fuel) i∈Ke fs vs fuel:=by
  unfold Xl
  rw[List.getD_eq_getElem?_getD,List.getElem?_eq_getElem hi]
  exact List.getElem_mem hi
 have hok:=X14 _ hm
 exact ⟨⟨(Xp hok).1.2,fun j hj=>⟨(Ve hok j hj).2.2,(Ve hok j hj).2.1⟩⟩,Ul hok⟩
set_option maxRecDepth 100000 in
theorem Xqp (fv v:Value) (fs:List FN) (vs:List VN) (fuel:Int) (w:World) (hf:RawFNodes w.heap.size w fv fs) (hv:RawNodes w.heap.size w v vs) (hE:Errs4 w) (h1: -9223372036854775808≤fuel) (h2:fuel≤9223372036854775807):
  Calls Tryz.prog 4 #[fv,v, .int .i64 fuel] w fun e w'=>e= .returned (.bool true)∧Below w.heap.size w w':=by
 have HF:=Xa hf
 have HV:=Xa hv
 have HE:=Xa hE
 obtain ⟨_,a1,cap1,rfl,_⟩:=hf
 obtain ⟨_,a2,cap2,rfl,_⟩:=hv
 obtain ⟨C,N,R,hN,hR,hCS,hCI⟩:=Xy9 fs vs fuel h1 h2
 have HR:=Xa hR
 have HRF:Hid (∀i,i<N→Few (R i)):=fun i hi=>(HR.out i hi).1
 have CS:=Xa hCS
 have CI:=Xa hCI
 obtain ⟨n1,hn1⟩:∃n,fs.length=n:=⟨_,rfl⟩
 obtain ⟨n2,hn2⟩:∃n,vs.length=n:=⟨_,rfl⟩
 rw[hn1] at HF
 rw[hn2] at HV
 rw[hn1,hn2]
 have HN1:=Xa hn1
 have HN2:=Xa hn2
 clear hR hCS hCI hE hn1 hn2
 go_enter Tryz.func4,Tryz.ntmps4
 go_wp2_with fail
 refine (Xvt w.heap.size _ fs 1048576 _ HF.out (Nat.le_refl _) (by omega) (by omega)).mono ?_
 rintro e w1 ⟨⟨q,rfl,hq,hs⟩,hb1⟩
 have HS1:=Xa hs
 have z1:=hb1.size
 clear hs
 by_cases hq0:q<0
 ·go_wp2_with fail
  go_ret
  exact ⟨rfl,hb1⟩
 have HF1:=Xa (HS1.out (by omega))
 have HFN:=Xa (HF.out.fit HF1.out.1 HF1.out.2.1)
 have HB1:=Xa hb1
 clear hb1
 go_wp2_with fail
 refine (Xi9 w.heap.size _ vs q w1 (HV.out.below HB1.out) z1 (by omega) (by omega)).mono ?_
 rintro e w2 ⟨⟨q2,rfl,hq2,hs⟩,hb2⟩
 have HS2:=Xa hs
 have HB2:=Xa (Below.nextE HB1.out hb2 z1)
 have z2:=HB2.out.size
 clear hs hb2
 by_cases hq3:q2<0
 ·go_wp2_with fail
  go_ret
  exact ⟨rfl,HB2.out⟩
 have HV1:=Xa (HS2.out (by omega))
 have HVN:=Xa (HV.out.fit HV1.out.1 HV1.out.2.1)
 have HFI:=Xa HVN.out.fits
 have HL:=Xa HVN.out.1
 have HWT:Hid (Jl fs fs.length≤3145728):=by have:=HF1.out.2.2;rw[Hid];omega
 go_wp2_with fail
 refine (Xcd w.heap.size _ fs _ (HFN.out.below HB2.out) z2).mono ?_
 rintro e w3 ⟨rfl,hx3,hb3⟩
 have HX3:=Xa hx3
 have HB3:=Xa (Below.nextE HB2.out hb3 z2)
 have z3:=HB3.out.size
 clear hx3 hb3
 try rw[HN1.out]
 go_wp2_with fail
 refine (Kw w.heap.size _ vs _ (HVN.out.below HB3.out) z3).mono ?_
 rintro e w4 ⟨KB4,KI4,rfl,ho4,hb4⟩
 have HO4:=Xa ho4
 have HX4:=Xa ((HX3.out.below hb4).wide hb4.size)
 have HB4:=Xa (Below.nextE HB3.out hb4 z3)
 have z4:=HB4.out.size
 clear ho4 hb4
 try rw[HN2.out]
 go_wp2_with fail
 refine (CS.out _ _ w4 (by have:=HX4.out;rw[HN1.out] at this;exact this) (by have:=HO4.out.nodes HL.out HFI.out;rw[HN2.out] at this;exact this)).mono ?_
 rintro e w5 ⟨r0,base0,rs0,KV0,IV0,lo0,rfl,hbase0,hnest0,hb5⟩
 have HN0:=Xa hnest0
 obtain ⟨a0,c0,hr0⟩:=Xj hnest0.row
 subst hr0
 have HB5:=Xa (Below.nextE HB4.out hb5 z4)
 have z5:=HB5.out.size
 clear hnest0 hb5
 go_wp2_with fail
 refine (Xpd w.heap.size _ fs _ (HFN.out.below HB5.out) z5).mono ?_
 rintro e w6 ⟨rfl,⟨L6,Q6,hrow6,hown6⟩,hx6,hb6⟩
 have HROW6:=Xa hrow6
 have HOWN6:=Xa hown6
 have HX6:=Xa hx6
 have H56:=Xa hb6
 have HB6:=Xa (Below.nextE HB5.out hb6 z5)
 have z6:=hb6.size
 clear hrow6 hown6 hx6 hb6
 try rw[HN1.out]
 go_wp2_with fail
 refine (Kw w.heap.size _ vs _ (HVN.out.below HB6.out) (by omega)).mono ?_
 rintro e w7 ⟨KB7,KI7,rfl,ho7,hb7⟩
 have HO7:=Xa ho7
 have H57:=Xa (Below.nextE H56.out hb7 z6)
 have H67:=Xa hb7
 have HB7:=Xa (Below.nextE HB6.out hb7 (by omega))
 have z7:=hb7.size
 clear ho7 hb7
 try rw[HN2.out]
 go_wp2_with fail
 refine (CI.out _ _ w7 (by have:=(HX6.out.below H67.out).wide z7;rw[HN1.out] at this;exact this) (by have:=HO7.out.nodes HL.out HFI.out;rw[HN2.out] at this;exact this) (HE.out.keep HB7.out)).mono ?_
 rintro e w8 ⟨r8,base8,rs8,KV8,IV8,lo8,rfl,hbase8,hnest8,hb8⟩
 have HN8:=Xa hnest8
 have hbase8':base8≤w8.heap.size:=Nat.le_trans (hnest8.low _ (Nat.le_refl _)) hnest8.top
 obtain ⟨a8,c8,hr8⟩:=Xj hnest8.row
 subst hr8
 have H58:=Xa (Below.nextE H57.out hb8 (by omega))
 have H68:=Xa (Below.nextE H67.out hb8 z7)
 have H78:=Xa hb8
 have HB8:=Xa (Below.nextE HB7.out hb8 (by omega))
 have z8:=hb8.size
 clear hnest8 hb8
 go_wp2_with fail
 refine (Xbc w8.heap.size _ _ N R _ (HN8.out.rows hN HR.out) ((HN0.out.below H58.out).rows hN HR.out) (Nat.le_refl _)).mono ?_
 rintro e w9 ⟨rfl,hb9⟩
 have H59:=Xa (Below.nextE H58.out hb9 (by omega))
 have H69:=Xa (Below.nextE H68.out hb9 (by omega))
 have H79:=Xa (Below.nextE H78.out hb9 z8)
 have HB9:=Xa (Below.nextE HB8.out hb9 (by omega))
 have HFR9:=Xa ((From.refl base8 w8).below hb9)
 have z9:=hb9.size
 clear hb9
 go_wp2_with fail
 refine (Xcd w.heap.size _ fs _ (HFN.out.below HB9.out) (by omega)).mono ?_
 rintro e w10 ⟨rfl,hx10,hb10⟩
 have HX10:=Xa hx10
 have H510:=Xa (Below.nextE H59.out hb10 (by omega))
 have H610:=Xa (Below.nextE H69.out hb10 (by omega))
 have H710:=Xa (Below.nextE H79.out hb10 (by omega))
 have HB10:=Xa (Below.nextE HB9.out hb10 (by omega))
 have HFR10:=Xa (HFR9.out.below hb10)
 have z10:=hb10.size
 clear hx10 hb10
 try rw[HN1.out]
 go_wp2_with fail
 refine (Xon w10.heap.size _ _ fs _ (by have:=(HX6.out.below H610.out).wide (B':=w10.heap.size) (by omega);rw[HN1.out] at this;exact this) (by have:=HX10.out;rw[HN1.out] at this;exact this) (Nat.le_refl _)).mono ?_
 rintro e w11 ⟨rfl,hb11⟩
 have H511:=Xa (Below.nextE H510.out hb11 (by omega))
 have H611:=Xa (Below.nextE H610.out hb11 (by omega))
 have H711:=Xa (Below.nextE H710.out hb11 (by omega))
 have HB11:=Xa (Below.nextE HB10.out hb11 (by omega))
 have HFR11:=Xa (HFR10.out.below hb11)
 have z11:=hb11.size
 clear hb11
 go_wp2_with fail
 refine (Kw w.heap.size _ vs _ (HVN.out.below HB11.out) (by omega)).mono ?_
 rintro e w12 ⟨KB12,KI12,rfl,ho12,hb12⟩
 have HO12:=Xa ho12
 have H512:=Xa (Below.nextE H511.out hb12 (by omega))
 have H612:=Xa (Below.nextE H611.out hb12 (by omega))
 have H712:=Xa (Below.nextE H711.out hb12 (by omega))
 have HB12:=Xa (Below.nextE HB11.out hb12 (by omega))
 have HFR12:=Xa (HFR11.out.below hb12)
 have z12:=hb12.size
 clear ho12 hb12
 try rw[HN2.out]
 go_wp2_with fail
 refine (Xb5 w12.heap.size _ _ vs _ (by have:=(HO7.out.below H712.out).nodes HL.out HFI.out;rw[HN2.out] at this;exact this) (by have:=HO12.out.nodes HL.out HFI.out;rw[HN2.out] at this;exact this) (Nat.le_refl _)).mono ?_
 rintro e w13 ⟨rfl,hb13⟩
 have H513:=Xa (Below.nextE H512.out hb13 (by omega))
 have H613:=Xa (Below.nextE H612.out hb13 (by omega))
 have H713:=Xa (Below.nextE H712.out hb13 (by omega))
 have HB13:=Xa (Below.nextE HB12.out hb13 (by omega))
 have HFR13:=Xa (HFR12.out.below hb13)
 have z13:=hb13.size
 clear hb13
 have HMF:Hid (Calls Tryz.prog 18 #[.slice (some ⟨w5.heap.size,0,none⟩) n1 n1, .int .i64 1] w13 fun e w'=>e= .returned (.int .i64 (1+Jl fs fs.length:Nat))∧Below w5.heap.size w13 w'∧∀x,w6.heap.size≤x→x<w13.heap.size→w'.heap[x]? =w13.heap[x]?):=by
  have:=Xj0 w5.heap.size 1 fs L6 Q6 w13 (Y3 HROW6.out H613.out HROW6.out.lt) (HOWN6.out.below H613.out) HF1.out.1 HF1.out.2.1 (by omega) (by have:=HWT.out;omega)
  rw[HN1.out] at this
  rw[Hid,HN1.out]
  have ht:=HOWN6.out.top
  rw[HN1.out] at ht
  exact this.mono fun e w' ⟨h1,h2,h3⟩=>⟨h1,h2,fun x hx=>h3 x (by omega)⟩
 obtain ⟨M14,hM14⟩:∃M,1+Jl fs fs.length=M:=⟨_,rfl⟩
 rw[hM14] at HMF
 have hM14b:1≤M14∧M14≤3145729:=by have:=HWT.out;omega
 clear hM14
 go_wp2_with fail
 refine HMF.out.mono ?_
 rintro e w14 ⟨rfl,hb14,hrest14⟩
 have HREST:=Xa hrest14
 have H514:=Xa (H513.out.trans hb14)
 have HB14:=Xa (HB13.out.trans (hb14.mono z5))
 have z14:=hb14.size
 have HFR14:=Xa (HFR13.out.rest z14 hrest14 (by omega))
 have HKK:Hid (∀i,i<vs.length→(Xb vs i).keys.length≤1048576∧(Xb vs i).kids.length≤1048576):=fun i hi=>⟨(HV1.out.2.1 i hi).kn,(HV1.out.2.1 i hi).ki⟩
 have HMV:Hid (Marky w6.heap.size w14 w6.heap.size n2 (J8 vs) (J9 vs) KB7 KI7):=by
  have:=(HO7.out.below H713.out).marky_keep (w':=w14) HV1.out.1 HKK.out z14 (fun x h1 h2=>HREST.out x h1 h2)
  rw[HN2.out] at this
  exact this
 have hn2:n2≤1048576:=by have:=HV1.out.1;have:=HN2.out;omega
 clear hb14 hrest14
 go_wp2_with fail
 refine (Ww w6.heap.size w6.heap.size n2 n2 M14 (some ⟨w6.heap.size,0,none⟩) _ _ KB7 KI7 w14 (fun _=>⟨rfl,HMV.out⟩) (by omega) hn2 (by omega) (by omega)).mono ?_
 rintro e w15 ⟨rfl,_,hon15,hb15⟩
 have H515:=Xa (H514.out.trans (hb15.mono z6))
 have HB15:=Xa (HB14.out.trans (hb15.mono (by omega)))
 have HFR15:=Xa (HFR14.out.only hon15 (fun c hc=>by
  have:=(HO7.out.marked (x:=c) (by rw[HN2.out];exact hc)).2
  omega))
 have z15:=hb15.size
 clear hon15 hb15
 generalize off (J8 vs) (J9 vs) M14 n2=M15
 have hM15:¬((M15:Int)<0):=by omega
 go_wp2_with fail
 refine (Xbc w15.heap.size _ _ N R _ ((HN8.out.from HFR15.out).rows hN HR.out) ((HN0.out.below H515.out).rows hN HR.out) (Nat.le_refl _)).mono ?_
 rintro e w16 ⟨rfl,hb16⟩
 have H516:=Xa (Below.nextE H515.out hb16 (by omega))
 have HB16:=Xa (Below.nextE HB15.out hb16 (by omega))
 have HN16:=Xa (HN8.out.from (HFR15.out.below hb16))
 have z16:=hb16.size
 clear hb16
 go_wp2_with fail
 refine (Xi7 base8 _ N R rs8 KV8 IV8 lo8 w16 HN16.out hN HRF.out).mono ?_
 rintro e w17 ⟨rfl,hh17,hb17⟩
 have H517:=Xa (H516.out.trans (hb17.mono (by omega)))
 have HB17:=Xa (HB16.out.trans (hb17.mono (by omega)))
 have HH17:=Xa hh17
 have z17:=hb17.size
 clear hh17 hb17
 go_wp2_with fail
 refine (Xcv base8 _ N R rs8 KV8 IV8 lo8 w17 w16 HN16.out HH17.out hN HRF.out).mono ?_
 rintro e w18 ⟨rfl,hb18⟩
 have H518:=Xa (Below.nextE H517.out hb18 (by omega))
 have HB18:=Xa (Below.nextE HB17.out hb18 (by omega))
 have H1718:=Xa hb18
 have z18:=hb18.size
 clear hb18
 have HOFF:Hid (∃M,Kd R N=M):=⟨_,rfl⟩
 obtain ⟨M18,hM18⟩:=HOFF.out
 rw[hM18]
 have HM18:=Xa hM18
 have hM0:¬((M18:Int)<0):=by omega
 clear hM18
 go_wp2_with fail
 refine (Xcd w.heap.size _ fs _ (HFN.out.below HB18.out) (by omega)).mono ?_
 rintro e w19 ⟨rfl,hx19,hb19⟩
 have HX19:=Xa hx19
 have H519:=Xa (Below.nextE H518.out hb19 (by omega))
 have HB19:=Xa (Below.nextE HB18.out hb19 (by omega))
 have H1719:=Xa (Below.nextE H1718.out hb19 z18)
 have z19:=hb19.size
 clear hx19 hb19
 try rw[HN1.out]
 go_wp2_with fail
 refine (Kw w.heap.size _ vs _ (HVN.out.below HB19.out) (by omega)).mono ?_
 rintro e w20 ⟨KB20,KI20,rfl,ho20,hb20⟩
 have HO20:=Xa ho20
 have HX20:=Xa ((HX19.out.below hb20).wide hb20.size)
 have H520:=Xa (Below.nextE H519.out hb20 (by omega))
 have HB20:=Xa (Below.nextE HB19.out hb20 (by omega))
 have H1720:=Xa (Below.nextE H1719.out hb20 (by omega))
 have z20:=hb20.size
 clear ho20 hb20
 try rw[HN2.out]
 go_wp2_with fail
 refine (CI.out _ _ w20 (by have:=HX20.out;rw[HN1.out] at this;exact this) (by have:=HO20.out.nodes HL.out HFI.out;rw[HN2.out] at this;exact this) (HE.out.keep HB20.out)).mono ?_
 rintro e w21 ⟨r21,base21,rs21,KV21,IV21,lo21,rfl,hbase21,hnest21,hb21⟩
 have HN21:=Xa hnest21
 obtain ⟨a21,c21,hr21⟩:=Xj hnest21.row
 subst hr21
 have H521:=Xa (Below.nextE H520.out hb21 (by omega))
 have HB21:=Xa (Below.nextE HB20.out hb21 (by omega))
 have H1721:=Xa (Below.nextE H1720.out hb21 (by omega))
 have z21:=hb21.size
 clear hnest21 hb21
 go_wp2_with fail
 refine (Xbc w21.heap.size _ _ N R _ (HN21.out.rows hN HR.out) ((HN0.out.below H521.out).rows hN HR.out) (Nat.le_refl _)).mono ?_
 rintro e w22 ⟨rfl,hb22⟩
 have HB22:=Xa (Below.nextE HB21.out hb22 (by omega))
 have H1722:=Xa (Below.nextE H1721.out hb22 (by omega))
 have z22:=hb22.size
 clear hb22
 go_wp2_with fail
 refine (Xcv base8 _ N R rs8 KV8 IV8 lo8 w22 w16 HN16.out (HH17.out.below H1722.out) hN HRF.out).mono ?_
 rintro e w23 ⟨rfl,hb23⟩
 have HB23:=Xa (Below.nextE HB22.out hb23 (by omega))
 clear hb23
 rw[HM18.out]
 go_wp2_with fail
 go_ret
 exact ⟨rfl,HB23.out⟩
end Go.Proofs.YtdjddneidbddpaaGreatDoor
