import Derived.Test.YtehihemfepbmfaaGreatDoorFtD
import Derived.Deep.RegionHeld3
import Derived.Test.YtehihemfepbmfaaGreatDoorFSpc3
namespace Go.Proofs.YtehihemfepbmfaaGreatDoor
set_option linter.unusedSectionVars false
open Go.RowKit
set_option maxHeartbeats 6400000
open Go.RowKit Go.WideShapes
set_option linter.unusedSimpArgs false
set_option linter.unusedVariables false
set_option maxRecDepth 100000 in
theorem X0q (B:Nat) (x:FN) (f:Nat) (fs:List FN) (ih:Kv B fs f) (hkd:x.kind=6):Q5 B x (Xg (Xf fs f) x) f fs:=by
 intro w bv o N cap n kc kn ki least hfs hx hok hkids hS hl1 hl6
 obtain ⟨⟨c0,c1,c2,c3,c4,c5,hinn⟩,hbv,hB,hn,hN⟩:=hx
 have hLV:=Xr x.kind
 obtain ⟨f8,f9,fo,f2,f3,f5,fz,fzn⟩:=Yg hok
 have hnN:(n:Int)<(N:Int):=by omega
 obtain ⟨_,aC,cC,rfl,hcc⟩:=hinn.cst
 obtain ⟨_,hks,aK,cK,rfl,hkc⟩:=hinn.names
 obtain ⟨_,_,aI,cI,rfl,hic⟩:=hinn.kids
 obtain ⟨M,hM⟩:∃M,x.kids.length=M:=⟨_,rfl⟩
 obtain ⟨MK,hMK⟩:∃MK,x.names.length=MK:=⟨_,rfl⟩
 obtain ⟨MC,hMC⟩:∃MC,x.cst.length=MC:=⟨_,rfl⟩
 have HMM:=Xb hM
 have HMK:=Xb hMK
 have HMC:=Xb hMC
 rw[hM] at c5 hic f8 f9 fo
 rw[hMK] at c4 hkc f9 fzn
 rw[hMC] at c3 hcc
 rw[hM] at hkids
 have HCC:=Xb hcc
 have HKC:=Xb hkc
 have HIC:=Xb hic
 clear hcc hkc hic hM hMK hMC hinn
 have HLV:Hid (∀W,Calls Tryz.prog 61 #[.int .i64 6] W fun e w'=>e= .returned (.int .i64 1)∧w'=W):=fun W=>Xr 6 W (by omega) (by omega)
 rw[hkd] at c0⊢
 rw[show Xp 6=1 from rfl]
 have HB6:Hid (Xg (Xf fs f) x=Xg (Xf fs f) x):=rfl
 have eM:M=2:=by have:=(fo (by omega) (by omega)).2.2;rw[hkd] at this;simp[kidsN] at this;omega
 subst eM
 have HIH:Hid (∀(q:Nat) (l:Int) W,Below w.heap.size w W→q<f→q<fs.length→1≤l→l≤6→Calls Tryz.prog 25 #[.slice (some ⟨bv,o,none⟩) N cap, .int .i64 q, .int .i64 l] W fun e w'=>e= .returned (.string (txt (Xf fs f q l)))∧Below W.heap.size W w'):=fun q l W hb h1 h2 h3 h4=>ih _ q l W (hfs.below (hb.mono hB)) (Nat.le_trans hB hb.size) h1 h2 h3 h4
 obtain ⟨bi,oi,rfl,hbi,hci⟩:=HIC.out (by omega)
 have hbz:bi<w.heap.size:=by omega
 have hbn:¬bi=w.heap.size:=by omega
 obtain ⟨q0,hq0,hf0,hs0,hz0⟩:=hkids 0 (by omega)
 have ci0:=hci 0 (by omega)
 rw[hq0] at ci0
 rw[Nat.add_zero] at ci0
 have HK0:=Xb (fun W hb=>HIH.out q0 2 W hb hf0 hs0 (by omega) (by omega))
 have hzk0:=hz0 2
 obtain ⟨r0,hr0⟩:∃r,Xf fs f q0 2=r:=⟨_,rfl⟩
 obtain ⟨q1,hq1,hf1,hs1,hz1⟩:=hkids 1 (by omega)
 have ci1:=hci 1 (by omega)
 rw[hq1] at ci1
 have HK1:=Xb (fun W hb=>HIH.out q1 1 W hb hf1 hs1 (by omega) (by omega))
 have hzk1:=hz1 1
 obtain ⟨r1,hr1⟩:∃r,Xf fs f q1 1=r:=⟨_,rfl⟩
 have HSB:Hid (Xg (Xf fs f) x=Xf fs f (Xk x.kids 0) 2++Yl 6++Xf fs f (Xk x.kids 1) 1):=by rw[Hid,Xg,hkd];simp[Ji,Qh]
 obtain ⟨S,hSS⟩:∃S,Xg (Xf fs f) x=S:=⟨_,rfl⟩
 rw[hSS] at hS HSB⊢
 clear hSS
 rw[hq0,hr0,hq1,hr1] at HSB
 rw[hr0] at HK0 hzk0
 rw[←Xo] at hzk0
 clear hz0 hr0 hq0 hf0 hs0
 rw[hr1] at HK1 hzk1
 rw[←Xo] at hzk1
 clear hz1 hr1 hq1 hf1 hs1
 have HSG:Hid (∀W,Calls Tryz.prog 64 #[.int .i64 6] W fun e w'=>e= .returned (.string (txt (Yl 6)))∧w'=W):=fun W=>J3 6 W (by simp)
 have hzg:(txt (Yl 6)).size≤4:=by rw[Xo];exact Ko _
 obtain ⟨sg,hsg⟩:∃sg,Yl 6=sg:=⟨_,rfl⟩
 rw[hsg] at HSG hzg HSB
 clear hsg hci HIH ih
 clear f8 f9 fo f2 f3 f5 fz fzn hfs hkids hLV HB6 HCC HKC HIC
 have g1:¬9223372036854775807<(txt r0).size+(txt sg).size:=by omega
 have g2:¬9223372036854775807<(txt r0).size+(txt sg).size+(txt r1).size:=by omega
 obtain ⟨nm,hnm⟩:∃nm,x.name=nm:=⟨_,rfl⟩
 obtain ⟨pl,hpl⟩:∃pl,x.place=pl:=⟨_,rfl⟩
 rw[hnm] at c1
 rw[hpl] at c2
 clear hnm hpl
 obtain ⟨W1,hW1⟩:∃W1,w.alloc (.cells #[.int .i64 6, .string nm, .int .i64 pl, .slice aC MC cC, .slice aK MK cK, .slice (some ⟨bi,oi,none⟩) 2 cI] 51)=W1:=⟨_,rfl⟩
 have HBX:Hid (Below w.heap.size w W1):=by rw[Hid,←hW1];exact (Below.refl _ _).alloc (Nat.le_refl _) _
 have x0:W1.cell? ⟨w.heap.size,0,none⟩=some (.int .i64 6):=by rw[←hW1];simp
 have x5:W1.cell? ⟨w.heap.size,5,none⟩=some (.slice (some ⟨bi,oi,none⟩) 2 cI):=by rw[←hW1];simp
 have hzW:w.heap.size<W1.heap.size:=by rw[←hW1];simp
 have y0:=(Xd HBX.out hbz).trans ci0
 have y1:=(Xd HBX.out hbz).trans ci1
 have HW1:=Xb hW1
 have HS:Hid (∀Y,Below W1.heap.size W1 Y→(Y.cell? ⟨w.heap.size,0,none⟩=some (.int .i64 6)∧Y.cell? ⟨w.heap.size,5,none⟩=some (.slice (some ⟨bi,oi,none⟩) 2 cI)∧Y.cell? ⟨bi,oi,none⟩=some (.int .i64 q0)∧Y.cell? ⟨bi,oi+1,none⟩=some (.int .i64 q1))):=fun Y hY=>⟨(Xd hY hzW).trans x0,(Xd hY hzW).trans x5,(Xd hY (by omega)).trans y0,(Xd hY (by omega)).trans y1⟩
 have HBQ:Hid (∀Y,Below W1.heap.size W1 Y→Below w.heap.size w Y):=fun Y hY=>HBX.out.trans (hY.mono (by omega))
 have HFIN:Hid (txt r0++txt sg++txt r1=txt S):=by rw[Hid,Yo,Yo,HSB.out]
 have hzS:(txt S).size≤24600:=by rw[Xo];exact hS
 clear hW1
 go_enter Tryz.func25,Tryz.ntmps25
 go_wp2_with (go_at_call 61;refine (HLV.out _).mono ?_;rintro e w1 ⟨rfl,rfl⟩)
 go_wp2_with fail
 rw[HW1.out]
 go_region_held3 (fun w'=>w'.cell? ⟨w.heap.size,0,none⟩=some (.int .i64 6)∧w'.cell? ⟨w.heap.size,5,none⟩=some (.slice (some ⟨bi,oi,none⟩) 2 cI)∧w'.cell? ⟨bi,oi,none⟩=some (.int .i64 q0)∧w'.cell? ⟨bi,oi+1,none⟩=some (.int .i64 q1))
  (first|exact HS.out _ b4|exact HS.out _ b3|exact HS.out _ (Below.drew (Below.refl _ _)))
  (first
   |(go_at_call 64;refine (HSG.out _).mono ?_;rintro e w9 ⟨rfl,rfl⟩)
   |(go_at_call 25;refine (HK1.out _ (HBQ.out _ b3)).mono ?_;rintro e w4 ⟨rfl,hb4⟩;have b4:=b3.trans (hb4.mono b3.size))
   |(go_at_call 25;refine (HK0.out _ (HBQ.out _ (Below.drew (Below.refl W1.heap.size W1)))).mono ?_;rintro e w3 ⟨rfl,hb3⟩;have b3:=(Below.drew (Below.refl W1.heap.size W1)).trans hb3))
 all_goals (
  have HB5:=Xb (HBQ.out _ b4)
  rw[HFIN.out]
  by_cases hll:(1:Int)<least
  ·go_wp2_with fail
   go_ret
   exact ⟨Z6 (txt_of (by simp[Xz])),HB5.out⟩
  ·go_wp2_with fail
   go_ret
   exact ⟨rfl,HB5.out⟩)
set_option maxRecDepth 100000 in
theorem Xzp (B:Nat) (x:FN) (f:Nat) (fs:List FN) (ih:Kv B fs f) (hkd:x.kind=21):Q5 B x (Xg (Xf fs f) x) f fs:=by
 intro w bv o N cap n kc kn ki least hfs hx hok hkids hS hl1 hl6
 obtain ⟨⟨c0,c1,c2,c3,c4,c5,hinn⟩,hbv,hB,hn,hN⟩:=hx
 have hLV:=Xr x.kind
 obtain ⟨f8,f9,fo,f2,f3,f5,fz,fzn⟩:=Yg hok
 have hnN:(n:Int)<(N:Int):=by omega
 obtain ⟨_,aC,cC,rfl,hcc⟩:=hinn.cst
 obtain ⟨_,hks,aK,cK,rfl,hkc⟩:=hinn.names
 obtain ⟨_,_,aI,cI,rfl,hic⟩:=hinn.kids
 obtain ⟨M,hM⟩:∃M,x.kids.length=M:=⟨_,rfl⟩
 obtain ⟨MK,hMK⟩:∃MK,x.names.length=MK:=⟨_,rfl⟩
 obtain ⟨MC,hMC⟩:∃MC,x.cst.length=MC:=⟨_,rfl⟩
 have HMM:=Xb hM
 have HMK:=Xb hMK
 have HMC:=Xb hMC
 rw[hM] at c5 hic f8 f9 fo
 rw[hMK] at c4 hkc f9 fzn
 rw[hMC] at c3 hcc
 rw[hM] at hkids
 have HCC:=Xb hcc
 have HKC:=Xb hkc
 have HIC:=Xb hic
 clear hcc hkc hic hM hMK hMC hinn
 have HLV:Hid (∀W,Calls Tryz.prog 61 #[.int .i64 21] W fun e w'=>e= .returned (.int .i64 3)∧w'=W):=fun W=>Xr 21 W (by omega) (by omega)
 rw[hkd] at c0⊢
 rw[show Xp 21=3 from rfl]
 have HB6:Hid (Xg (Xf fs f) x=Xg (Xf fs f) x):=rfl
 have eM:M=2:=by have:=(fo (by omega) (by omega)).2.2;rw[hkd] at this;simp[kidsN] at this;omega
 subst eM
 have HIH:Hid (∀(q:Nat) (l:Int) W,Below w.heap.size w W→q<f→q<fs.length→1≤l→l≤6→Calls Tryz.prog 25 #[.slice (some ⟨bv,o,none⟩) N cap, .int .i64 q, .int .i64 l] W fun e w'=>e= .returned (.string (txt (Xf fs f q l)))∧Below W.heap.size W w'):=fun q l W hb h1 h2 h3 h4=>ih _ q l W (hfs.below (hb.mono hB)) (Nat.le_trans hB hb.size) h1 h2 h3 h4
 obtain ⟨bi,oi,rfl,hbi,hci⟩:=HIC.out (by omega)
 have hbz:bi<w.heap.size:=by omega
 have hbn:¬bi=w.heap.size:=by omega
 obtain ⟨q0,hq0,hf0,hs0,hz0⟩:=hkids 0 (by omega)
 have ci0:=hci 0 (by omega)
 rw[hq0] at ci0
 rw[Nat.add_zero] at ci0
 have HK0:=Xb (fun W hb=>HIH.out q0 4 W hb hf0 hs0 (by omega) (by omega))
 have hzk0:=hz0 4
 obtain ⟨r0,hr0⟩:∃r,Xf fs f q0 4=r:=⟨_,rfl⟩
 obtain ⟨q1,hq1,hf1,hs1,hz1⟩:=hkids 1 (by omega)
 have ci1:=hci 1 (by omega)
 rw[hq1] at ci1
 have HK1:=Xb (fun W hb=>HIH.out q1 3 W hb hf1 hs1 (by omega) (by omega))
 have hzk1:=hz1 3
 obtain ⟨r1,hr1⟩:∃r,Xf fs f q1 3=r:=⟨_,rfl⟩
 have HSB:Hid (Xg (Xf fs f) x=Xf fs f (Xk x.kids 0) 4++Yl 21++Xf fs f (Xk x.kids 1) 3):=by rw[Hid,Xg,hkd];simp[Ji,Qh]
 obtain ⟨S,hSS⟩:∃S,Xg (Xf fs f) x=S:=⟨_,rfl⟩
 rw[hSS] at hS HSB⊢
 clear hSS
 rw[hq0,hr0,hq1,hr1] at HSB
 rw[hr0] at HK0 hzk0
 rw[←Xo] at hzk0
 clear hz0 hr0 hq0 hf0 hs0
 rw[hr1] at HK1 hzk1
 rw[←Xo] at hzk1
 clear hz1 hr1 hq1 hf1 hs1
 have HSG:Hid (∀W,Calls Tryz.prog 64 #[.int .i64 21] W fun e w'=>e= .returned (.string (txt (Yl 21)))∧w'=W):=fun W=>J3 21 W (by simp)
 have hzg:(txt (Yl 21)).size≤4:=by rw[Xo];exact Ko _
 obtain ⟨sg,hsg⟩:∃sg,Yl 21=sg:=⟨_,rfl⟩
 rw[hsg] at HSG hzg HSB
 clear hsg hci HIH ih
 clear f8 f9 fo f2 f3 f5 fz fzn hfs hkids hLV HB6 HCC HKC HIC
 have g1:¬9223372036854775807<(txt r0).size+(txt sg).size:=by omega
 have g2:¬9223372036854775807<(txt r0).size+(txt sg).size+(txt r1).size:=by omega
 obtain ⟨nm,hnm⟩:∃nm,x.name=nm:=⟨_,rfl⟩
 obtain ⟨pl,hpl⟩:∃pl,x.place=pl:=⟨_,rfl⟩
 rw[hnm] at c1
 rw[hpl] at c2
 clear hnm hpl
 obtain ⟨W1,hW1⟩:∃W1,w.alloc (.cells #[.int .i64 21, .string nm, .int .i64 pl, .slice aC MC cC, .slice aK MK cK, .slice (some ⟨bi,oi,none⟩) 2 cI] 51)=W1:=⟨_,rfl⟩
 have HBX:Hid (Below w.heap.size w W1):=by rw[Hid,←hW1];exact (Below.refl _ _).alloc (Nat.le_refl _) _
 have x0:W1.cell? ⟨w.heap.size,0,none⟩=some (.int .i64 21):=by rw[←hW1];simp
 have x5:W1.cell? ⟨w.heap.size,5,none⟩=some (.slice (some ⟨bi,oi,none⟩) 2 cI):=by rw[←hW1];simp
 have hzW:w.heap.size<W1.heap.size:=by rw[←hW1];simp
 have y0:=(Xd HBX.out hbz).trans ci0
 have y1:=(Xd HBX.out hbz).trans ci1
 have HW1:=Xb hW1
 have HS:Hid (∀Y,Below W1.heap.size W1 Y→(Y.cell? ⟨w.heap.size,0,none⟩=some (.int .i64 21)∧Y.cell? ⟨w.heap.size,5,none⟩=some (.slice (some ⟨bi,oi,none⟩) 2 cI)∧Y.cell? ⟨bi,oi,none⟩=some (.int .i64 q0)∧Y.cell? ⟨bi,oi+1,none⟩=some (.int .i64 q1))):=fun Y hY=>⟨(Xd hY hzW).trans x0,(Xd hY hzW).trans x5,(Xd hY (by omega)).trans y0,(Xd hY (by omega)).trans y1⟩
 have HBQ:Hid (∀Y,Below W1.heap.size W1 Y→Below w.heap.size w Y):=fun Y hY=>HBX.out.trans (hY.mono (by omega))
 have HFIN:Hid (txt r0++txt sg++txt r1=txt S):=by rw[Hid,Yo,Yo,HSB.out]
 have hzS:(txt S).size≤24600:=by rw[Xo];exact hS
 clear hW1
 go_enter Tryz.func25,Tryz.ntmps25
 go_wp2_with (go_at_call 61;refine (HLV.out _).mono ?_;rintro e w1 ⟨rfl,rfl⟩)
 go_wp2_with fail
 rw[HW1.out]
 go_region_held3 (fun w'=>w'.cell? ⟨w.heap.size,0,none⟩=some (.int .i64 21)∧w'.cell? ⟨w.heap.size,5,none⟩=some (.slice (some ⟨bi,oi,none⟩) 2 cI)∧w'.cell? ⟨bi,oi,none⟩=some (.int .i64 q0)∧w'.cell? ⟨bi,oi+1,none⟩=some (.int .i64 q1))
  (first|exact HS.out _ b4|exact HS.out _ b3|exact HS.out _ (Below.drew (Below.refl _ _)))
  (first
   |(go_at_call 64;refine (HSG.out _).mono ?_;rintro e w9 ⟨rfl,rfl⟩)
   |(go_at_call 25;refine (HK1.out _ (HBQ.out _ b3)).mono ?_;rintro e w4 ⟨rfl,hb4⟩;have b4:=b3.trans (hb4.mono b3.size))
   |(go_at_call 25;refine (HK0.out _ (HBQ.out _ (Below.drew (Below.refl W1.heap.size W1)))).mono ?_;rintro e w3 ⟨rfl,hb3⟩;have b3:=(Below.drew (Below.refl W1.heap.size W1)).trans hb3))
 all_goals (
  have HB5:=Xb (HBQ.out _ b4)
  rw[HFIN.out]
  by_cases hll:(3:Int)<least
  ·go_wp2_with fail
   go_ret
   exact ⟨Z6 (txt_of (by simp[Xz])),HB5.out⟩
  ·go_wp2_with fail
   go_ret
   exact ⟨rfl,HB5.out⟩)
set_option maxRecDepth 100000 in
theorem X0r (B:Nat) (x:FN) (f:Nat) (fs:List FN) (ih:Kv B fs f) (hkd:x.kind=7):Q5 B x (Xg (Xf fs f) x) f fs:=by
 intro w bv o N cap n kc kn ki least hfs hx hok hkids hS hl1 hl6
 obtain ⟨⟨c0,c1,c2,c3,c4,c5,hinn⟩,hbv,hB,hn,hN⟩:=hx
 have hLV:=Xr x.kind
 obtain ⟨f8,f9,fo,f2,f3,f5,fz,fzn⟩:=Yg hok
 have hnN:(n:Int)<(N:Int):=by omega
 obtain ⟨_,aC,cC,rfl,hcc⟩:=hinn.cst
 obtain ⟨_,hks,aK,cK,rfl,hkc⟩:=hinn.names
 obtain ⟨_,_,aI,cI,rfl,hic⟩:=hinn.kids
 obtain ⟨M,hM⟩:∃M,x.kids.length=M:=⟨_,rfl⟩
 obtain ⟨MK,hMK⟩:∃MK,x.names.length=MK:=⟨_,rfl⟩
 obtain ⟨MC,hMC⟩:∃MC,x.cst.length=MC:=⟨_,rfl⟩
 have HMM:=Xb hM
 have HMK:=Xb hMK
 have HMC:=Xb hMC
 rw[hM] at c5 hic f8 f9 fo
 rw[hMK] at c4 hkc f9 fzn
 rw[hMC] at c3 hcc
 rw[hM] at hkids
 have HCC:=Xb hcc
 have HKC:=Xb hkc
 have HIC:=Xb hic
 clear hcc hkc hic hM hMK hMC hinn
 have HLV:Hid (∀W,Calls Tryz.prog 61 #[.int .i64 7] W fun e w'=>e= .returned (.int .i64 2)∧w'=W):=fun W=>Xr 7 W (by omega) (by omega)
 rw[hkd] at c0⊢
 rw[show Xp 7=2 from rfl]
 have HB6:Hid (Xg (Xf fs f) x=Xg (Xf fs f) x):=rfl
 have eM:M=2:=by have:=(fo (by omega) (by omega)).2.2;rw[hkd] at this;simp[kidsN] at this;omega
 subst eM
 have HIH:Hid (∀(q:Nat) (l:Int) W,Below w.heap.size w W→q<f→q<fs.length→1≤l→l≤6→Calls Tryz.prog 25 #[.slice (some ⟨bv,o,none⟩) N cap, .int .i64 q, .int .i64 l] W fun e w'=>e= .returned (.string (txt (Xf fs f q l)))∧Below W.heap.size W w'):=fun q l W hb h1 h2 h3 h4=>ih _ q l W (hfs.below (hb.mono hB)) (Nat.le_trans hB hb.size) h1 h2 h3 h4
 obtain ⟨bi,oi,rfl,hbi,hci⟩:=HIC.out (by omega)
 have hbz:bi<w.heap.size:=by omega
 have hbn:¬bi=w.heap.size:=by omega
 obtain ⟨q0,hq0,hf0,hs0,hz0⟩:=hkids 0 (by omega)
 have ci0:=hci 0 (by omega)
 rw[hq0] at ci0
 rw[Nat.add_zero] at ci0
 have HK0:=Xb (fun W hb=>HIH.out q0 2 W hb hf0 hs0 (by omega) (by omega))
 have hzk0:=hz0 2
 obtain ⟨r0,hr0⟩:∃r,Xf fs f q0 2=r:=⟨_,rfl⟩
 obtain ⟨q1,hq1,hf1,hs1,hz1⟩:=hkids 1 (by omega)
 have ci1:=hci 1 (by omega)
 rw[hq1] at ci1
 have HK1:=Xb (fun W hb=>HIH.out q1 3 W hb hf1 hs1 (by omega) (by omega))
 have hzk1:=hz1 3
 obtain ⟨r1,hr1⟩:∃r,Xf fs f q1 3=r:=⟨_,rfl⟩
 have HSB:Hid (Xg (Xf fs f) x=Xf fs f (Xk x.kids 0) 2++Yl 7++Xf fs f (Xk x.kids 1) 3):=by rw[Hid,Xg,hkd];simp[Ji,Qh]
 obtain ⟨S,hSS⟩:∃S,Xg (Xf fs f) x=S:=⟨_,rfl⟩
 rw[hSS] at hS HSB⊢
 clear hSS
 rw[hq0,hr0,hq1,hr1] at HSB
 rw[hr0] at HK0 hzk0
 rw[←Xo] at hzk0
 clear hz0 hr0 hq0 hf0 hs0
 rw[hr1] at HK1 hzk1
 rw[←Xo] at hzk1
 clear hz1 hr1 hq1 hf1 hs1
 have HSG:Hid (∀W,Calls Tryz.prog 64 #[.int .i64 7] W fun e w'=>e= .returned (.string (txt (Yl 7)))∧w'=W):=fun W=>J3 7 W (by simp)
 have hzg:(txt (Yl 7)).size≤4:=by rw[Xo];exact Ko _
 obtain ⟨sg,hsg⟩:∃sg,Yl 7=sg:=⟨_,rfl⟩
 rw[hsg] at HSG hzg HSB
 clear hsg hci HIH ih
 clear f8 f9 fo f2 f3 f5 fz fzn hfs hkids hLV HB6 HCC HKC HIC
 have g1:¬9223372036854775807<(txt r0).size+(txt sg).size:=by omega
 have g2:¬9223372036854775807<(txt r0).size+(txt sg).size+(txt r1).size:=by omega
 obtain ⟨nm,hnm⟩:∃nm,x.name=nm:=⟨_,rfl⟩
 obtain ⟨pl,hpl⟩:∃pl,x.place=pl:=⟨_,rfl⟩
 rw[hnm] at c1
 rw[hpl] at c2
 clear hnm hpl
 obtain ⟨W1,hW1⟩:∃W1,w.alloc (.cells #[.int .i64 7, .string nm, .int .i64 pl, .slice aC MC cC, .slice aK MK cK, .slice (some ⟨bi,oi,none⟩) 2 cI] 51)=W1:=⟨_,rfl⟩
 have HBX:Hid (Below w.heap.size w W1):=by rw[Hid,←hW1];exact (Below.refl _ _).alloc (Nat.le_refl _) _
 have x0:W1.cell? ⟨w.heap.size,0,none⟩=some (.int .i64 7):=by rw[←hW1];simp
 have x5:W1.cell? ⟨w.heap.size,5,none⟩=some (.slice (some ⟨bi,oi,none⟩) 2 cI):=by rw[←hW1];simp
 have hzW:w.heap.size<W1.heap.size:=by rw[←hW1];simp
 have y0:=(Xd HBX.out hbz).trans ci0
 have y1:=(Xd HBX.out hbz).trans ci1
 have HW1:=Xb hW1
 have HS:Hid (∀Y,Below W1.heap.size W1 Y→(Y.cell? ⟨w.heap.size,0,none⟩=some (.int .i64 7)∧Y.cell? ⟨w.heap.size,5,none⟩=some (.slice (some ⟨bi,oi,none⟩) 2 cI)∧Y.cell? ⟨bi,oi,none⟩=some (.int .i64 q0)∧Y.cell? ⟨bi,oi+1,none⟩=some (.int .i64 q1))):=fun Y hY=>⟨(Xd hY hzW).trans x0,(Xd hY hzW).trans x5,(Xd hY (by omega)).trans y0,(Xd hY (by omega)).trans y1⟩
 have HBQ:Hid (∀Y,Below W1.heap.size W1 Y→Below w.heap.size w Y):=fun Y hY=>HBX.out.trans (hY.mono (by omega))
 have HFIN:Hid (txt r0++txt sg++txt r1=txt S):=by rw[Hid,Yo,Yo,HSB.out]
 have hzS:(txt S).size≤24600:=by rw[Xo];exact hS
 clear hW1
 go_enter Tryz.func25,Tryz.ntmps25
 go_wp2_with (go_at_call 61;refine (HLV.out _).mono ?_;rintro e w1 ⟨rfl,rfl⟩)
 go_wp2_with fail
 rw[HW1.out]
 go_region_held3 (fun w'=>w'.cell? ⟨w.heap.size,0,none⟩=some (.int .i64 7)∧w'.cell? ⟨w.heap.size,5,none⟩=some (.slice (some ⟨bi,oi,none⟩) 2 cI)∧w'.cell? ⟨bi,oi,none⟩=some (.int .i64 q0)∧w'.cell? ⟨bi,oi+1,none⟩=some (.int .i64 q1))
  (first|exact HS.out _ b4|exact HS.out _ b3|exact HS.out _ (Below.drew (Below.refl _ _)))
  (first
   |(go_at_call 64;refine (HSG.out _).mono ?_;rintro e w9 ⟨rfl,rfl⟩)
   |(go_at_call 25;refine (HK1.out _ (HBQ.out _ b3)).mono ?_;rintro e w4 ⟨rfl,hb4⟩;have b4:=b3.trans (hb4.mono b3.size))
   |(go_at_call 25;refine (HK0.out _ (HBQ.out _ (Below.drew (Below.refl W1.heap.size W1)))).mono ?_;rintro e w3 ⟨rfl,hb3⟩;have b3:=(Below.drew (Below.refl W1.heap.size W1)).trans hb3))
 all_goals (
  have HB5:=Xb (HBQ.out _ b4)
  rw[HFIN.out]
  by_cases hll:(2:Int)<least
  ·go_wp2_with fail
   go_ret
   exact ⟨Z6 (txt_of (by simp[Xz])),HB5.out⟩
  ·go_wp2_with fail
   go_ret
   exact ⟨rfl,HB5.out⟩)

open Go.RowKit Go.WideShapes
set_option maxRecDepth 100000 in
theorem Xy7 (B:Nat) (x:FN) (f:Nat) (fs:List FN) (ih:Kv B fs f) (hkd:x.kind=15):Q5 B x (Xg (Xf fs f) x) f fs:=by
 intro w bv o N cap n kc kn ki least hfs hx hok hkids hS hl1 hl6
 obtain ⟨⟨c0,c1,c2,c3,c4,c5,hinn⟩,hbv,hB,hn,hN⟩:=hx
 have hLV:=Xr x.kind
 obtain ⟨f8,f9,fo,f2,f3,f5,fz,fzn⟩:=Yg hok
 have hnN:(n:Int)<(N:Int):=by omega
 obtain ⟨_,aC,cC,rfl,hcc⟩:=hinn.cst
 obtain ⟨_,hks,aK,cK,rfl,hkc⟩:=hinn.names
 obtain ⟨_,_,aI,cI,rfl,hic⟩:=hinn.kids
 obtain ⟨M,hM⟩:∃M,x.kids.length=M:=⟨_,rfl⟩
 obtain ⟨MK,hMK⟩:∃MK,x.names.length=MK:=⟨_,rfl⟩
 obtain ⟨MC,hMC⟩:∃MC,x.cst.length=MC:=⟨_,rfl⟩
 have HMM:=Xb hM
 have HMK:=Xb hMK
 have HMC:=Xb hMC
 rw[hM] at c5 hic f8 f9 fo
 rw[hMK] at c4 hkc f9 fzn
 rw[hMC] at c3 hcc
 rw[hM] at hkids
 have HCC:=Xb hcc
 have HKC:=Xb hkc
 have HIC:=Xb hic
 clear hcc hkc hic hM hMK hMC hinn
 have HLV:Hid (∀W,Calls Tryz.prog 61 #[.int .i64 15] W fun e w'=>e= .returned (.int .i64 5)∧w'=W):=fun W=>Xr 15 W (by omega) (by omega)
 rw[hkd] at c0⊢
 rw[show Xp 15=5 from rfl]
 have HB6:Hid (Xg (Xf fs f) x=Xg (Xf fs f) x):=rfl
 have eM:M=2:=by have:=(fo (by omega) (by omega)).2.2;rw[hkd] at this;simp[kidsN] at this;omega
 subst eM
 have HIH:Hid (∀(q:Nat) (l:Int) W,Below w.heap.size w W→q<f→q<fs.length→1≤l→l≤6→Calls Tryz.prog 25 #[.slice (some ⟨bv,o,none⟩) N cap, .int .i64 q, .int .i64 l] W fun e w'=>e= .returned (.string (txt (Xf fs f q l)))∧Below W.heap.size W w'):=fun q l W hb h1 h2 h3 h4=>ih _ q l W (hfs.below (hb.mono hB)) (Nat.le_trans hB hb.size) h1 h2 h3 h4
 obtain ⟨bi,oi,rfl,hbi,hci⟩:=HIC.out (by omega)
 have hbz:bi<w.heap.size:=by omega
 have hbn:¬bi=w.heap.size:=by omega
 obtain ⟨q0,hq0,hf0,hs0,hz0⟩:=hkids 0 (by omega)
 have ci0:=hci 0 (by omega)
 rw[hq0] at ci0
 rw[Nat.add_zero] at ci0
 have HK0:=Xb (fun W hb=>HIH.out q0 5 W hb hf0 hs0 (by omega) (by omega))
 have hzk0:=hz0 5
 obtain ⟨r0,hr0⟩:∃r,Xf fs f q0 5=r:=⟨_,rfl⟩
 obtain ⟨q1,hq1,hf1,hs1,hz1⟩:=hkids 1 (by omega)
 have ci1:=hci 1 (by omega)
 rw[hq1] at ci1
 have HK1:=Xb (fun W hb=>HIH.out q1 6 W hb hf1 hs1 (by omega) (by omega))
 have hzk1:=hz1 6
 obtain ⟨r1,hr1⟩:∃r,Xf fs f q1 6=r:=⟨_,rfl⟩
 have HSB:Hid (Xg (Xf fs f) x=Xf fs f (Xk x.kids 0) 5++Yl 15++Xf fs f (Xk x.kids 1) 6):=by rw[Hid,Xg,hkd];simp[Ji,Qh]
 obtain ⟨S,hSS⟩:∃S,Xg (Xf fs f) x=S:=⟨_,rfl⟩
 rw[hSS] at hS HSB⊢
 clear hSS
 rw[hq0,hr0,hq1,hr1] at HSB
 rw[hr0] at HK0 hzk0
 rw[←Xo] at hzk0
 clear hz0 hr0 hq0 hf0 hs0
 rw[hr1] at HK1 hzk1
 rw[←Xo] at hzk1
 clear hz1 hr1 hq1 hf1 hs1
 have HSG:Hid (∀W,Calls Tryz.prog 64 #[.int .i64 15] W fun e w'=>e= .returned (.string (txt (Yl 15)))∧w'=W):=fun W=>J3 15 W (by simp)
 have hzg:(txt (Yl 15)).size≤4:=by rw[Xo];exact Ko _
 obtain ⟨sg,hsg⟩:∃sg,Yl 15=sg:=⟨_,rfl⟩
 rw[hsg] at HSG hzg HSB
 clear hsg hci HIH ih
 clear f8 f9 fo f2 f3 f5 fz fzn hfs hkids hLV HB6 HCC HKC HIC
 have g1:¬9223372036854775807<(txt r0).size+(txt sg).size:=by omega
 have g2:¬9223372036854775807<(txt r0).size+(txt sg).size+(txt r1).size:=by omega
 obtain ⟨nm,hnm⟩:∃nm,x.name=nm:=⟨_,rfl⟩
 obtain ⟨pl,hpl⟩:∃pl,x.place=pl:=⟨_,rfl⟩
 rw[hnm] at c1
 rw[hpl] at c2
 clear hnm hpl
 obtain ⟨W1,hW1⟩:∃W1,w.alloc (.cells #[.int .i64 15, .string nm, .int .i64 pl, .slice aC MC cC, .slice aK MK cK, .slice (some ⟨bi,oi,none⟩) 2 cI] 51)=W1:=⟨_,rfl⟩
 have HBX:Hid (Below w.heap.size w W1):=by rw[Hid,←hW1];exact (Below.refl _ _).alloc (Nat.le_refl _) _
 have x0:W1.cell? ⟨w.heap.size,0,none⟩=some (.int .i64 15):=by rw[←hW1];simp
 have x5:W1.cell? ⟨w.heap.size,5,none⟩=some (.slice (some ⟨bi,oi,none⟩) 2 cI):=by rw[←hW1];simp
 have hzW:w.heap.size<W1.heap.size:=by rw[←hW1];simp
 have y0:=(Xd HBX.out hbz).trans ci0
 have y1:=(Xd HBX.out hbz).trans ci1
 have HW1:=Xb hW1
 have HS:Hid (∀Y,Below W1.heap.size W1 Y→(Y.cell? ⟨w.heap.size,0,none⟩=some (.int .i64 15)∧Y.cell? ⟨w.heap.size,5,none⟩=some (.slice (some ⟨bi,oi,none⟩) 2 cI)∧Y.cell? ⟨bi,oi,none⟩=some (.int .i64 q0)∧Y.cell? ⟨bi,oi+1,none⟩=some (.int .i64 q1))):=fun Y hY=>⟨(Xd hY hzW).trans x0,(Xd hY hzW).trans x5,(Xd hY (by omega)).trans y0,(Xd hY (by omega)).trans y1⟩
 have HBQ:Hid (∀Y,Below W1.heap.size W1 Y→Below w.heap.size w Y):=fun Y hY=>HBX.out.trans (hY.mono (by omega))
 have HFIN:Hid (txt r0++txt sg++txt r1=txt S):=by rw[Hid,Yo,Yo,HSB.out]
 have hzS:(txt S).size≤24600:=by rw[Xo];exact hS
 clear hW1
 go_enter Tryz.func25,Tryz.ntmps25
 go_wp2_with (go_at_call 61;refine (HLV.out _).mono ?_;rintro e w1 ⟨rfl,rfl⟩)
 go_wp2_with fail
 rw[HW1.out]
 go_region_held3 (fun w'=>w'.cell? ⟨w.heap.size,0,none⟩=some (.int .i64 15)∧w'.cell? ⟨w.heap.size,5,none⟩=some (.slice (some ⟨bi,oi,none⟩) 2 cI)∧w'.cell? ⟨bi,oi,none⟩=some (.int .i64 q0)∧w'.cell? ⟨bi,oi+1,none⟩=some (.int .i64 q1))
  (first|exact HS.out _ b4|exact HS.out _ b3|exact HS.out _ (Below.drew (Below.refl _ _)))
  (first
   |(go_at_call 64;refine (HSG.out _).mono ?_;rintro e w9 ⟨rfl,rfl⟩)
   |(go_at_call 25;refine (HK1.out _ (HBQ.out _ b3)).mono ?_;rintro e w4 ⟨rfl,hb4⟩;have b4:=b3.trans (hb4.mono b3.size))
   |(go_at_call 25;refine (HK0.out _ (HBQ.out _ (Below.drew (Below.refl W1.heap.size W1)))).mono ?_;rintro e w3 ⟨rfl,hb3⟩;have b3:=(Below.drew (Below.refl W1.heap.size W1)).trans hb3))
 all_goals (
  have HB5:=Xb (HBQ.out _ b4)
  rw[HFIN.out]
  by_cases hll:(5:Int)<least
  ·go_wp2_with fail
   go_ret
   exact ⟨Z6 (txt_of (by simp[Xz])),HB5.out⟩
  ·go_wp2_with fail
   go_ret
   exact ⟨rfl,HB5.out⟩)
set_option maxRecDepth 100000 in
theorem Xy8 (B:Nat) (x:FN) (f:Nat) (fs:List FN) (ih:Kv B fs f) (hkd:x.kind=16):Q5 B x (Xg (Xf fs f) x) f fs:=by
 intro w bv o N cap n kc kn ki least hfs hx hok hkids hS hl1 hl6
 obtain ⟨⟨c0,c1,c2,c3,c4,c5,hinn⟩,hbv,hB,hn,hN⟩:=hx
 have hLV:=Xr x.kind
 obtain ⟨f8,f9,fo,f2,f3,f5,fz,fzn⟩:=Yg hok
 have hnN:(n:Int)<(N:Int):=by omega
 obtain ⟨_,aC,cC,rfl,hcc⟩:=hinn.cst
 obtain ⟨_,hks,aK,cK,rfl,hkc⟩:=hinn.names
 obtain ⟨_,_,aI,cI,rfl,hic⟩:=hinn.kids
 obtain ⟨M,hM⟩:∃M,x.kids.length=M:=⟨_,rfl⟩
 obtain ⟨MK,hMK⟩:∃MK,x.names.length=MK:=⟨_,rfl⟩
 obtain ⟨MC,hMC⟩:∃MC,x.cst.length=MC:=⟨_,rfl⟩
 have HMM:=Xb hM
 have HMK:=Xb hMK
 have HMC:=Xb hMC
 rw[hM] at c5 hic f8 f9 fo
 rw[hMK] at c4 hkc f9 fzn
 rw[hMC] at c3 hcc
 rw[hM] at hkids
 have HCC:=Xb hcc
 have HKC:=Xb hkc
 have HIC:=Xb hic
 clear hcc hkc hic hM hMK hMC hinn
 have HLV:Hid (∀W,Calls Tryz.prog 61 #[.int .i64 16] W fun e w'=>e= .returned (.int .i64 5)∧w'=W):=fun W=>Xr 16 W (by omega) (by omega)
 rw[hkd] at c0⊢
 rw[show Xp 16=5 from rfl]
 have HB6:Hid (Xg (Xf fs f) x=Xg (Xf fs f) x):=rfl
 have eM:M=2:=by have:=(fo (by omega) (by omega)).2.2;rw[hkd] at this;simp[kidsN] at this;omega
 subst eM
 have HIH:Hid (∀(q:Nat) (l:Int) W,Below w.heap.size w W→q<f→q<fs.length→1≤l→l≤6→Calls Tryz.prog 25 #[.slice (some ⟨bv,o,none⟩) N cap, .int .i64 q, .int .i64 l] W fun e w'=>e= .returned (.string (txt (Xf fs f q l)))∧Below W.heap.size W w'):=fun q l W hb h1 h2 h3 h4=>ih _ q l W (hfs.below (hb.mono hB)) (Nat.le_trans hB hb.size) h1 h2 h3 h4
 obtain ⟨bi,oi,rfl,hbi,hci⟩:=HIC.out (by omega)
 have hbz:bi<w.heap.size:=by omega
 have hbn:¬bi=w.heap.size:=by omega
 obtain ⟨q0,hq0,hf0,hs0,hz0⟩:=hkids 0 (by omega)
 have ci0:=hci 0 (by omega)
 rw[hq0] at ci0
 rw[Nat.add_zero] at ci0
 have HK0:=Xb (fun W hb=>HIH.out q0 5 W hb hf0 hs0 (by omega) (by omega))
 have hzk0:=hz0 5
 obtain ⟨r0,hr0⟩:∃r,Xf fs f q0 5=r:=⟨_,rfl⟩
 obtain ⟨q1,hq1,hf1,hs1,hz1⟩:=hkids 1 (by omega)
 have ci1:=hci 1 (by omega)
 rw[hq1] at ci1
 have HK1:=Xb (fun W hb=>HIH.out q1 6 W hb hf1 hs1 (by omega) (by omega))
 have hzk1:=hz1 6
 obtain ⟨r1,hr1⟩:∃r,Xf fs f q1 6=r:=⟨_,rfl⟩
 have HSB:Hid (Xg (Xf fs f) x=Xf fs f (Xk x.kids 0) 5++Yl 16++Xf fs f (Xk x.kids 1) 6):=by rw[Hid,Xg,hkd];simp[Ji,Qh]
 obtain ⟨S,hSS⟩:∃S,Xg (Xf fs f) x=S:=⟨_,rfl⟩
 rw[hSS] at hS HSB⊢
 clear hSS
 rw[hq0,hr0,hq1,hr1] at HSB
 rw[hr0] at HK0 hzk0
 rw[←Xo] at hzk0
 clear hz0 hr0 hq0 hf0 hs0
 rw[hr1] at HK1 hzk1
 rw[←Xo] at hzk1
 clear hz1 hr1 hq1 hf1 hs1
 have HSG:Hid (∀W,Calls Tryz.prog 64 #[.int .i64 16] W fun e w'=>e= .returned (.string (txt (Yl 16)))∧w'=W):=fun W=>J3 16 W (by simp)
 have hzg:(txt (Yl 16)).size≤4:=by rw[Xo];exact Ko _
 obtain ⟨sg,hsg⟩:∃sg,Yl 16=sg:=⟨_,rfl⟩
 rw[hsg] at HSG hzg HSB
 clear hsg hci HIH ih
 clear f8 f9 fo f2 f3 f5 fz fzn hfs hkids hLV HB6 HCC HKC HIC
 have g1:¬9223372036854775807<(txt r0).size+(txt sg).size:=by omega
 have g2:¬9223372036854775807<(txt r0).size+(txt sg).size+(txt r1).size:=by omega
 obtain ⟨nm,hnm⟩:∃nm,x.name=nm:=⟨_,rfl⟩
 obtain ⟨pl,hpl⟩:∃pl,x.place=pl:=⟨_,rfl⟩
 rw[hnm] at c1
 rw[hpl] at c2
 clear hnm hpl
 obtain ⟨W1,hW1⟩:∃W1,w.alloc (.cells #[.int .i64 16, .string nm, .int .i64 pl, .slice aC MC cC, .slice aK MK cK, .slice (some ⟨bi,oi,none⟩) 2 cI] 51)=W1:=⟨_,rfl⟩
 have HBX:Hid (Below w.heap.size w W1):=by rw[Hid,←hW1];exact (Below.refl _ _).alloc (Nat.le_refl _) _
 have x0:W1.cell? ⟨w.heap.size,0,none⟩=some (.int .i64 16):=by rw[←hW1];simp
 have x5:W1.cell? ⟨w.heap.size,5,none⟩=some (.slice (some ⟨bi,oi,none⟩) 2 cI):=by rw[←hW1];simp
 have hzW:w.heap.size<W1.heap.size:=by rw[←hW1];simp
 have y0:=(Xd HBX.out hbz).trans ci0
 have y1:=(Xd HBX.out hbz).trans ci1
 have HW1:=Xb hW1
 have HS:Hid (∀Y,Below W1.heap.size W1 Y→(Y.cell? ⟨w.heap.size,0,none⟩=some (.int .i64 16)∧Y.cell? ⟨w.heap.size,5,none⟩=some (.slice (some ⟨bi,oi,none⟩) 2 cI)∧Y.cell? ⟨bi,oi,none⟩=some (.int .i64 q0)∧Y.cell? ⟨bi,oi+1,none⟩=some (.int .i64 q1))):=fun Y hY=>⟨(Xd hY hzW).trans x0,(Xd hY hzW).trans x5,(Xd hY (by omega)).trans y0,(Xd hY (by omega)).trans y1⟩
 have HBQ:Hid (∀Y,Below W1.heap.size W1 Y→Below w.heap.size w Y):=fun Y hY=>HBX.out.trans (hY.mono (by omega))
 have HFIN:Hid (txt r0++txt sg++txt r1=txt S):=by rw[Hid,Yo,Yo,HSB.out]
 have hzS:(txt S).size≤24600:=by rw[Xo];exact hS
 clear hW1
 go_enter Tryz.func25,Tryz.ntmps25
 go_wp2_with (go_at_call 61;refine (HLV.out _).mono ?_;rintro e w1 ⟨rfl,rfl⟩)
 go_wp2_with fail
 rw[HW1.out]
 go_region_held3 (fun w'=>w'.cell? ⟨w.heap.size,0,none⟩=some (.int .i64 16)∧w'.cell? ⟨w.heap.size,5,none⟩=some (.slice (some ⟨bi,oi,none⟩) 2 cI)∧w'.cell? ⟨bi,oi,none⟩=some (.int .i64 q0)∧w'.cell? ⟨bi,oi+1,none⟩=some (.int .i64 q1))
  (first|exact HS.out _ b4|exact HS.out _ b3|exact HS.out _ (Below.drew (Below.refl _ _)))
  (first
   |(go_at_call 64;refine (HSG.out _).mono ?_;rintro e w9 ⟨rfl,rfl⟩)
   |(go_at_call 25;refine (HK1.out _ (HBQ.out _ b3)).mono ?_;rintro e w4 ⟨rfl,hb4⟩;have b4:=b3.trans (hb4.mono b3.size))
   |(go_at_call 25;refine (HK0.out _ (HBQ.out _ (Below.drew (Below.refl W1.heap.size W1)))).mono ?_;rintro e w3 ⟨rfl,hb3⟩;have b3:=(Below.drew (Below.refl W1.heap.size W1)).trans hb3))
 all_goals (
  have HB5:=Xb (HBQ.out _ b4)
  rw[HFIN.out]
  by_cases hll:(5:Int)<least
  ·go_wp2_with fail
   go_ret
   exact ⟨Z6 (txt_of (by simp[Xz])),HB5.out⟩
  ·go_wp2_with fail
   go_ret
   exact ⟨rfl,HB5.out⟩)
set_option maxRecDepth 100000 in
theorem Xy9 (B:Nat) (x:FN) (f:Nat) (fs:List FN) (ih:Kv B fs f) (hkd:x.kind=17):Q5 B x (Xg (Xf fs f) x) f fs:=by
 intro w bv o N cap n kc kn ki least hfs hx hok hkids hS hl1 hl6
 obtain ⟨⟨c0,c1,c2,c3,c4,c5,hinn⟩,hbv,hB,hn,hN⟩:=hx
 have hLV:=Xr x.kind
 obtain ⟨f8,f9,fo,f2,f3,f5,fz,fzn⟩:=Yg hok
 have hnN:(n:Int)<(N:Int):=by omega
 obtain ⟨_,aC,cC,rfl,hcc⟩:=hinn.cst
 obtain ⟨_,hks,aK,cK,rfl,hkc⟩:=hinn.names
 obtain ⟨_,_,aI,cI,rfl,hic⟩:=hinn.kids
 obtain ⟨M,hM⟩:∃M,x.kids.length=M:=⟨_,rfl⟩
 obtain ⟨MK,hMK⟩:∃MK,x.names.length=MK:=⟨_,rfl⟩
 obtain ⟨MC,hMC⟩:∃MC,x.cst.length=MC:=⟨_,rfl⟩
 have HMM:=Xb hM
 have HMK:=Xb hMK
 have HMC:=Xb hMC
 rw[hM] at c5 hic f8 f9 fo
 rw[hMK] at c4 hkc f9 fzn
 rw[hMC] at c3 hcc
 rw[hM] at hkids
 have HCC:=Xb hcc
 have HKC:=Xb hkc
 have HIC:=Xb hic
 clear hcc hkc hic hM hMK hMC hinn
 have HLV:Hid (∀W,Calls Tryz.prog 61 #[.int .i64 17] W fun e w'=>e= .returned (.int .i64 4)∧w'=W):=fun W=>Xr 17 W (by omega) (by omega)
 rw[hkd] at c0⊢
 rw[show Xp 17=4 from rfl]
 have HB6:Hid (Xg (Xf fs f) x=Xg (Xf fs f) x):=rfl
 have eM:M=2:=by have:=(fo (by omega) (by omega)).2.2;rw[hkd] at this;simp[kidsN] at this;omega
 subst eM
 have HIH:Hid (∀(q:Nat) (l:Int) W,Below w.heap.size w W→q<f→q<fs.length→1≤l→l≤6→Calls Tryz.prog 25 #[.slice (some ⟨bv,o,none⟩) N cap, .int .i64 q, .int .i64 l] W fun e w'=>e= .returned (.string (txt (Xf fs f q l)))∧Below W.heap.size W w'):=fun q l W hb h1 h2 h3 h4=>ih _ q l W (hfs.below (hb.mono hB)) (Nat.le_trans hB hb.size) h1 h2 h3 h4
 obtain ⟨bi,oi,rfl,hbi,hci⟩:=HIC.out (by omega)
 have hbz:bi<w.heap.size:=by omega
 have hbn:¬bi=w.heap.size:=by omega
 obtain ⟨q0,hq0,hf0,hs0,hz0⟩:=hkids 0 (by omega)
 have ci0:=hci 0 (by omega)
 rw[hq0] at ci0
 rw[Nat.add_zero] at ci0
 have HK0:=Xb (fun W hb=>HIH.out q0 5 W hb hf0 hs0 (by omega) (by omega))
 have hzk0:=hz0 5
 obtain ⟨r0,hr0⟩:∃r,Xf fs f q0 5=r:=⟨_,rfl⟩
 obtain ⟨q1,hq1,hf1,hs1,hz1⟩:=hkids 1 (by omega)
 have ci1:=hci 1 (by omega)
 rw[hq1] at ci1
 have HK1:=Xb (fun W hb=>HIH.out q1 5 W hb hf1 hs1 (by omega) (by omega))
 have hzk1:=hz1 5
 obtain ⟨r1,hr1⟩:∃r,Xf fs f q1 5=r:=⟨_,rfl⟩
 have HSB:Hid (Xg (Xf fs f) x=Xf fs f (Xk x.kids 0) 5++Yl 17++Xf fs f (Xk x.kids 1) 5):=by rw[Hid,Xg,hkd];simp[Ji,Qh]
 obtain ⟨S,hSS⟩:∃S,Xg (Xf fs f) x=S:=⟨_,rfl⟩
 rw[hSS] at hS HSB⊢
 clear hSS
 rw[hq0,hr0,hq1,hr1] at HSB
 rw[hr0] at HK0 hzk0
 rw[←Xo] at hzk0
 clear hz0 hr0 hq0 hf0 hs0
 rw[hr1] at HK1 hzk1
 rw[←Xo] at hzk1
 clear hz1 hr1 hq1 hf1 hs1
 have HSG:Hid (∀W,Calls Tryz.prog 64 #[.int .i64 17] W fun e w'=>e= .returned (.string (txt (Yl 17)))∧w'=W):=fun W=>J3 17 W (by simp)
 have hzg:(txt (Yl 17)).size≤4:=by rw[Xo];exact Ko _
 obtain ⟨sg,hsg⟩:∃sg,Yl 17=sg:=⟨_,rfl⟩
 rw[hsg] at HSG hzg HSB
 clear hsg hci HIH ih
 clear f8 f9 fo f2 f3 f5 fz fzn hfs hkids hLV HB6 HCC HKC HIC
 have g1:¬9223372036854775807<(txt r0).size+(txt sg).size:=by omega
 have g2:¬9223372036854775807<(txt r0).size+(txt sg).size+(txt r1).size:=by omega
 obtain ⟨nm,hnm⟩:∃nm,x.name=nm:=⟨_,rfl⟩
 obtain ⟨pl,hpl⟩:∃pl,x.place=pl:=⟨_,rfl⟩
 rw[hnm] at c1
 rw[hpl] at c2
 clear hnm hpl
 obtain ⟨W1,hW1⟩:∃W1,w.alloc (.cells #[.int .i64 17, .string nm, .int .i64 pl, .slice aC MC cC, .slice aK MK cK, .slice (some ⟨bi,oi,none⟩) 2 cI] 51)=W1:=⟨_,rfl⟩
 have HBX:Hid (Below w.heap.size w W1):=by rw[Hid,←hW1];exact (Below.refl _ _).alloc (Nat.le_refl _) _
 have x0:W1.cell? ⟨w.heap.size,0,none⟩=some (.int .i64 17):=by rw[←hW1];simp
 have x5:W1.cell? ⟨w.heap.size,5,none⟩=some (.slice (some ⟨bi,oi,none⟩) 2 cI):=by rw[←hW1];simp
 have hzW:w.heap.size<W1.heap.size:=by rw[←hW1];simp
 have y0:=(Xd HBX.out hbz).trans ci0
 have y1:=(Xd HBX.out hbz).trans ci1
 have HW1:=Xb hW1
 have HS:Hid (∀Y,Below W1.heap.size W1 Y→(Y.cell? ⟨w.heap.size,0,none⟩=some (.int .i64 17)∧Y.cell? ⟨w.heap.size,5,none⟩=some (.slice (some ⟨bi,oi,none⟩) 2 cI)∧Y.cell? ⟨bi,oi,none⟩=some (.int .i64 q0)∧Y.cell? ⟨bi,oi+1,none⟩=some (.int .i64 q1))):=fun Y hY=>⟨(Xd hY hzW).trans x0,(Xd hY hzW).trans x5,(Xd hY (by omega)).trans y0,(Xd hY (by omega)).trans y1⟩
 have HBQ:Hid (∀Y,Below W1.heap.size W1 Y→Below w.heap.size w Y):=fun Y hY=>HBX.out.trans (hY.mono (by omega))
 have HFIN:Hid (txt r0++txt sg++txt r1=txt S):=by rw[Hid,Yo,Yo,HSB.out]
 have hzS:(txt S).size≤24600:=by rw[Xo];exact hS
 clear hW1
 go_enter Tryz.func25,Tryz.ntmps25
 go_wp2_with (go_at_call 61;refine (HLV.out _).mono ?_;rintro e w1 ⟨rfl,rfl⟩)
 go_wp2_with fail
 rw[HW1.out]
 go_region_held3 (fun w'=>w'.cell? ⟨w.heap.size,0,none⟩=some (.int .i64 17)∧w'.cell? ⟨w.heap.size,5,none⟩=some (.slice (some ⟨bi,oi,none⟩) 2 cI)∧w'.cell? ⟨bi,oi,none⟩=some (.int .i64 q0)∧w'.cell? ⟨bi,oi+1,none⟩=some (.int .i64 q1))
  (first|exact HS.out _ b4|exact HS.out _ b3|exact HS.out _ (Below.drew (Below.refl _ _)))
  (first
   |(go_at_call 64;refine (HSG.out _).mono ?_;rintro e w9 ⟨rfl,rfl⟩)
   |(go_at_call 25;refine (HK1.out _ (HBQ.out _ b3)).mono ?_;rintro e w4 ⟨rfl,hb4⟩;have b4:=b3.trans (hb4.mono b3.size))
   |(go_at_call 25;refine (HK0.out _ (HBQ.out _ (Below.drew (Below.refl W1.heap.size W1)))).mono ?_;rintro e w3 ⟨rfl,hb3⟩;have b3:=(Below.drew (Below.refl W1.heap.size W1)).trans hb3))
 all_goals (
  have HB5:=Xb (HBQ.out _ b4)
  rw[HFIN.out]
  by_cases hll:(4:Int)<least
  ·go_wp2_with fail
   go_ret
   exact ⟨Z6 (txt_of (by simp[Xz])),HB5.out⟩
  ·go_wp2_with fail
   go_ret
   exact ⟨rfl,HB5.out⟩)

open Go.RowKit Go.WideShapes
set_option maxRecDepth 100000 in
theorem Xyz (B:Nat) (x:FN) (f:Nat) (fs:List FN) (ih:Kv B fs f) (hkd:x.kind=18):Q5 B x (Xg (Xf fs f) x) f fs:=by
 intro w bv o N cap n kc kn ki least hfs hx hok hkids hS hl1 hl6
 obtain ⟨⟨c0,c1,c2,c3,c4,c5,hinn⟩,hbv,hB,hn,hN⟩:=hx
 have hLV:=Xr x.kind
 obtain ⟨f8,f9,fo,f2,f3,f5,fz,fzn⟩:=Yg hok
 have hnN:(n:Int)<(N:Int):=by omega
 obtain ⟨_,aC,cC,rfl,hcc⟩:=hinn.cst
 obtain ⟨_,hks,aK,cK,rfl,hkc⟩:=hinn.names
 obtain ⟨_,_,aI,cI,rfl,hic⟩:=hinn.kids
 obtain ⟨M,hM⟩:∃M,x.kids.length=M:=⟨_,rfl⟩
 obtain ⟨MK,hMK⟩:∃MK,x.names.length=MK:=⟨_,rfl⟩
 obtain ⟨MC,hMC⟩:∃MC,x.cst.length=MC:=⟨_,rfl⟩
 have HMM:=Xb hM
 have HMK:=Xb hMK
 have HMC:=Xb hMC
 rw[hM] at c5 hic f8 f9 fo
 rw[hMK] at c4 hkc f9 fzn
 rw[hMC] at c3 hcc
 rw[hM] at hkids
 have HCC:=Xb hcc
 have HKC:=Xb hkc
 have HIC:=Xb hic
 clear hcc hkc hic hM hMK hMC hinn
 have HLV:Hid (∀W,Calls Tryz.prog 61 #[.int .i64 18] W fun e w'=>e= .returned (.int .i64 4)∧w'=W):=fun W=>Xr 18 W (by omega) (by omega)
 rw[hkd] at c0⊢
 rw[show Xp 18=4 from rfl]
 have HB6:Hid (Xg (Xf fs f) x=Xg (Xf fs f) x):=rfl
 have eM:M=2:=by have:=(fo (by omega) (by omega)).2.2;rw[hkd] at this;simp[kidsN] at this;omega
 subst eM
 have HIH:Hid (∀(q:Nat) (l:Int) W,Below w.heap.size w W→q<f→q<fs.length→1≤l→l≤6→Calls Tryz.prog 25 #[.slice (some ⟨bv,o,none⟩) N cap, .int .i64 q, .int .i64 l] W fun e w'=>e= .returned (.string (txt (Xf fs f q l)))∧Below W.heap.size W w'):=fun q l W hb h1 h2 h3 h4=>ih _ q l W (hfs.below (hb.mono hB)) (Nat.le_trans hB hb.size) h1 h2 h3 h4
 obtain ⟨bi,oi,rfl,hbi,hci⟩:=HIC.out (by omega)
 have hbz:bi<w.heap.size:=by omega
 have hbn:¬bi=w.heap.size:=by omega
 obtain ⟨q0,hq0,hf0,hs0,hz0⟩:=hkids 0 (by omega)
 have ci0:=hci 0 (by omega)
 rw[hq0] at ci0
 rw[Nat.add_zero] at ci0
 have HK0:=Xb (fun W hb=>HIH.out q0 5 W hb hf0 hs0 (by omega) (by omega))
 have hzk0:=hz0 5
 obtain ⟨r0,hr0⟩:∃r,Xf fs f q0 5=r:=⟨_,rfl⟩
 obtain ⟨q1,hq1,hf1,hs1,hz1⟩:=hkids 1 (by omega)
 have ci1:=hci 1 (by omega)
 rw[hq1] at ci1
 have HK1:=Xb (fun W hb=>HIH.out q1 5 W hb hf1 hs1 (by omega) (by omega))
 have hzk1:=hz1 5
 obtain ⟨r1,hr1⟩:∃r,Xf fs f q1 5=r:=⟨_,rfl⟩
 have HSB:Hid (Xg (Xf fs f) x=Xf fs f (Xk x.kids 0) 5++Yl 18++Xf fs f (Xk x.kids 1) 5):=by rw[Hid,Xg,hkd];simp[Ji,Qh]
 obtain ⟨S,hSS⟩:∃S,Xg (Xf fs f) x=S:=⟨_,rfl⟩
 rw[hSS] at hS HSB⊢
 clear hSS
 rw[hq0,hr0,hq1,hr1] at HSB
 rw[hr0] at HK0 hzk0
 rw[←Xo] at hzk0
 clear hz0 hr0 hq0 hf0 hs0
 rw[hr1] at HK1 hzk1
 rw[←Xo] at hzk1
 clear hz1 hr1 hq1 hf1 hs1
 have HSG:Hid (∀W,Calls Tryz.prog 64 #[.int .i64 18] W fun e w'=>e= .returned (.string (txt (Yl 18)))∧w'=W):=fun W=>J3 18 W (by simp)
 have hzg:(txt (Yl 18)).size≤4:=by rw[Xo];exact Ko _
 obtain ⟨sg,hsg⟩:∃sg,Yl 18=sg:=⟨_,rfl⟩
 rw[hsg] at HSG hzg HSB
 clear hsg hci HIH ih
 clear f8 f9 fo f2 f3 f5 fz fzn hfs hkids hLV HB6 HCC HKC HIC
 have g1:¬9223372036854775807<(txt r0).size+(txt sg).size:=by omega
 have g2:¬9223372036854775807<(txt r0).size+(txt sg).size+(txt r1).size:=by omega
 obtain ⟨nm,hnm⟩:∃nm,x.name=nm:=⟨_,rfl⟩
 obtain ⟨pl,hpl⟩:∃pl,x.place=pl:=⟨_,rfl⟩
 rw[hnm] at c1
 rw[hpl] at c2
 clear hnm hpl
 obtain ⟨W1,hW1⟩:∃W1,w.alloc (.cells #[.int .i64 18, .string nm, .int .i64 pl, .slice aC MC cC, .slice aK MK cK, .slice (some ⟨bi,oi,none⟩) 2 cI] 51)=W1:=⟨_,rfl⟩
 have HBX:Hid (Below w.heap.size w W1):=by rw[Hid,←hW1];exact (Below.refl _ _).alloc (Nat.le_refl _) _
 have x0:W1.cell? ⟨w.heap.size,0,none⟩=some (.int .i64 18):=by rw[←hW1];simp
 have x5:W1.cell? ⟨w.heap.size,5,none⟩=some (.slice (some ⟨bi,oi,none⟩) 2 cI):=by rw[←hW1];simp
 have hzW:w.heap.size<W1.heap.size:=by rw[←hW1];simp
 have y0:=(Xd HBX.out hbz).trans ci0
 have y1:=(Xd HBX.out hbz).trans ci1
 have HW1:=Xb hW1
 have HS:Hid (∀Y,Below W1.heap.size W1 Y→(Y.cell? ⟨w.heap.size,0,none⟩=some (.int .i64 18)∧Y.cell? ⟨w.heap.size,5,none⟩=some (.slice (some ⟨bi,oi,none⟩) 2 cI)∧Y.cell? ⟨bi,oi,none⟩=some (.int .i64 q0)∧Y.cell? ⟨bi,oi+1,none⟩=some (.int .i64 q1))):=fun Y hY=>⟨(Xd hY hzW).trans x0,(Xd hY hzW).trans x5,(Xd hY (by omega)).trans y0,(Xd hY (by omega)).trans y1⟩
 have HBQ:Hid (∀Y,Below W1.heap.size W1 Y→Below w.heap.size w Y):=fun Y hY=>HBX.out.trans (hY.mono (by omega))
 have HFIN:Hid (txt r0++txt sg++txt r1=txt S):=by rw[Hid,Yo,Yo,HSB.out]
 have hzS:(txt S).size≤24600:=by rw[Xo];exact hS
 clear hW1
 go_enter Tryz.func25,Tryz.ntmps25
 go_wp2_with (go_at_call 61;refine (HLV.out _).mono ?_;rintro e w1 ⟨rfl,rfl⟩)
 go_wp2_with fail
 rw[HW1.out]
 go_region_held3 (fun w'=>w'.cell? ⟨w.heap.size,0,none⟩=some (.int .i64 18)∧w'.cell? ⟨w.heap.size,5,none⟩=some (.slice (some ⟨bi,oi,none⟩) 2 cI)∧w'.cell? ⟨bi,oi,none⟩=some (.int .i64 q0)∧w'.cell? ⟨bi,oi+1,none⟩=some (.int .i64 q1))
  (first|exact HS.out _ b4|exact HS.out _ b3|exact HS.out _ (Below.drew (Below.refl _ _)))
  (first
   |(go_at_call 64;refine (HSG.out _).mono ?_;rintro e w9 ⟨rfl,rfl⟩)
   |(go_at_call 25;refine (HK1.out _ (HBQ.out _ b3)).mono ?_;rintro e w4 ⟨rfl,hb4⟩;have b4:=b3.trans (hb4.mono b3.size))
   |(go_at_call 25;refine (HK0.out _ (HBQ.out _ (Below.drew (Below.refl W1.heap.size W1)))).mono ?_;rintro e w3 ⟨rfl,hb3⟩;have b3:=(Below.drew (Below.refl W1.heap.size W1)).trans hb3))
 all_goals (
  have HB5:=Xb (HBQ.out _ b4)
  rw[HFIN.out]
  by_cases hll:(4:Int)<least
  ·go_wp2_with fail
   go_ret
   exact ⟨Z6 (txt_of (by simp[Xz])),HB5.out⟩
  ·go_wp2_with fail
   go_ret
   exact ⟨rfl,HB5.out⟩)
set_option maxRecDepth 100000 in
theorem Xy0 (B:Nat) (x:FN) (f:Nat) (fs:List FN) (ih:Kv B fs f) (hkd:x.kind=19):Q5 B x (Xg (Xf fs f) x) f fs:=by
 intro w bv o N cap n kc kn ki least hfs hx hok hkids hS hl1 hl6
 obtain ⟨⟨c0,c1,c2,c3,c4,c5,hinn⟩,hbv,hB,hn,hN⟩:=hx
 have hLV:=Xr x.kind
 obtain ⟨f8,f9,fo,f2,f3,f5,fz,fzn⟩:=Yg hok
 have hnN:(n:Int)<(N:Int):=by omega
 obtain ⟨_,aC,cC,rfl,hcc⟩:=hinn.cst
 obtain ⟨_,hks,aK,cK,rfl,hkc⟩:=hinn.names
 obtain ⟨_,_,aI,cI,rfl,hic⟩:=hinn.kids
 obtain ⟨M,hM⟩:∃M,x.kids.length=M:=⟨_,rfl⟩
 obtain ⟨MK,hMK⟩:∃MK,x.names.length=MK:=⟨_,rfl⟩
 obtain ⟨MC,hMC⟩:∃MC,x.cst.length=MC:=⟨_,rfl⟩
 have HMM:=Xb hM
 have HMK:=Xb hMK
 have HMC:=Xb hMC
 rw[hM] at c5 hic f8 f9 fo
 rw[hMK] at c4 hkc f9 fzn
 rw[hMC] at c3 hcc
 rw[hM] at hkids
 have HCC:=Xb hcc
 have HKC:=Xb hkc
 have HIC:=Xb hic
 clear hcc hkc hic hM hMK hMC hinn
 have HLV:Hid (∀W,Calls Tryz.prog 61 #[.int .i64 19] W fun e w'=>e= .returned (.int .i64 4)∧w'=W):=fun W=>Xr 19 W (by omega) (by omega)
 rw[hkd] at c0⊢
 rw[show Xp 19=4 from rfl]
 have HB6:Hid (Xg (Xf fs f) x=Xg (Xf fs f) x):=rfl
 have eM:M=2:=by have:=(fo (by omega) (by omega)).2.2;rw[hkd] at this;simp[kidsN] at this;omega
 subst eM
 have HIH:Hid (∀(q:Nat) (l:Int) W,Below w.heap.size w W→q<f→q<fs.length→1≤l→l≤6→Calls Tryz.prog 25 #[.slice (some ⟨bv,o,none⟩) N cap, .int .i64 q, .int .i64 l] W fun e w'=>e= .returned (.string (txt (Xf fs f q l)))∧Below W.heap.size W w'):=fun q l W hb h1 h2 h3 h4=>ih _ q l W (hfs.below (hb.mono hB)) (Nat.le_trans hB hb.size) h1 h2 h3 h4
 obtain ⟨bi,oi,rfl,hbi,hci⟩:=HIC.out (by omega)
 have hbz:bi<w.heap.size:=by omega
 have hbn:¬bi=w.heap.size:=by omega
 obtain ⟨q0,hq0,hf0,hs0,hz0⟩:=hkids 0 (by omega)
 have ci0:=hci 0 (by omega)
 rw[hq0] at ci0
 rw[Nat.add_zero] at ci0
 have HK0:=Xb (fun W hb=>HIH.out q0 5 W hb hf0 hs0 (by omega) (by omega))
 have hzk0:=hz0 5
 obtain ⟨r0,hr0⟩:∃r,Xf fs f q0 5=r:=⟨_,rfl⟩
 obtain ⟨q1,hq1,hf1,hs1,hz1⟩:=hkids 1 (by omega)
 have ci1:=hci 1 (by omega)
 rw[hq1] at ci1
 have HK1:=Xb (fun W hb=>HIH.out q1 5 W hb hf1 hs1 (by omega) (by omega))
 have hzk1:=hz1 5
 obtain ⟨r1,hr1⟩:∃r,Xf fs f q1 5=r:=⟨_,rfl⟩
 have HSB:Hid (Xg (Xf fs f) x=Xf fs f (Xk x.kids 0) 5++Yl 19++Xf fs f (Xk x.kids 1) 5):=by rw[Hid,Xg,hkd];simp[Ji,Qh]
 obtain ⟨S,hSS⟩:∃S,Xg (Xf fs f) x=S:=⟨_,rfl⟩
 rw[hSS] at hS HSB⊢
 clear hSS
 rw[hq0,hr0,hq1,hr1] at HSB
 rw[hr0] at HK0 hzk0
 rw[←Xo] at hzk0
 clear hz0 hr0 hq0 hf0 hs0
 rw[hr1] at HK1 hzk1
 rw[←Xo] at hzk1
 clear hz1 hr1 hq1 hf1 hs1
 have HSG:Hid (∀W,Calls Tryz.prog 64 #[.int .i64 19] W fun e w'=>e= .returned (.string (txt (Yl 19)))∧w'=W):=fun W=>J3 19 W (by simp)
 have hzg:(txt (Yl 19)).size≤4:=by rw[Xo];exact Ko _
 obtain ⟨sg,hsg⟩:∃sg,Yl 19=sg:=⟨_,rfl⟩
 rw[hsg] at HSG hzg HSB
 clear hsg hci HIH ih
 clear f8 f9 fo f2 f3 f5 fz fzn hfs hkids hLV HB6 HCC HKC HIC
 have g1:¬9223372036854775807<(txt r0).size+(txt sg).size:=by omega
 have g2:¬9223372036854775807<(txt r0).size+(txt sg).size+(txt r1).size:=by omega
 obtain ⟨nm,hnm⟩:∃nm,x.name=nm:=⟨_,rfl⟩
 obtain ⟨pl,hpl⟩:∃pl,x.place=pl:=⟨_,rfl⟩
 rw[hnm] at c1
 rw[hpl] at c2
 clear hnm hpl
 obtain ⟨W1,hW1⟩:∃W1,w.alloc (.cells #[.int .i64 19, .string nm, .int .i64 pl, .slice aC MC cC, .slice aK MK cK, .slice (some ⟨bi,oi,none⟩) 2 cI] 51)=W1:=⟨_,rfl⟩
 have HBX:Hid (Below w.heap.size w W1):=by rw[Hid,←hW1];exact (Below.refl _ _).alloc (Nat.le_refl _) _
 have x0:W1.cell? ⟨w.heap.size,0,none⟩=some (.int .i64 19):=by rw[←hW1];simp
 have x5:W1.cell? ⟨w.heap.size,5,none⟩=some (.slice (some ⟨bi,oi,none⟩) 2 cI):=by rw[←hW1];simp
 have hzW:w.heap.size<W1.heap.size:=by rw[←hW1];simp
 have y0:=(Xd HBX.out hbz).trans ci0
 have y1:=(Xd HBX.out hbz).trans ci1
 have HW1:=Xb hW1
 have HS:Hid (∀Y,Below W1.heap.size W1 Y→(Y.cell? ⟨w.heap.size,0,none⟩=some (.int .i64 19)∧Y.cell? ⟨w.heap.size,5,none⟩=some (.slice (some ⟨bi,oi,none⟩) 2 cI)∧Y.cell? ⟨bi,oi,none⟩=some (.int .i64 q0)∧Y.cell? ⟨bi,oi+1,none⟩=some (.int .i64 q1))):=fun Y hY=>⟨(Xd hY hzW).trans x0,(Xd hY hzW).trans x5,(Xd hY (by omega)).trans y0,(Xd hY (by omega)).trans y1⟩
 have HBQ:Hid (∀Y,Below W1.heap.size W1 Y→Below w.heap.size w Y):=fun Y hY=>HBX.out.trans (hY.mono (by omega))
 have HFIN:Hid (txt r0++txt sg++txt r1=txt S):=by rw[Hid,Yo,Yo,HSB.out]
 have hzS:(txt S).size≤24600:=by rw[Xo];exact hS
 clear hW1
 go_enter Tryz.func25,Tryz.ntmps25
 go_wp2_with (go_at_call 61;refine (HLV.out _).mono ?_;rintro e w1 ⟨rfl,rfl⟩)
 go_wp2_with fail
 rw[HW1.out]
 go_region_held3 (fun w'=>w'.cell? ⟨w.heap.size,0,none⟩=some (.int .i64 19)∧w'.cell? ⟨w.heap.size,5,none⟩=some (.slice (some ⟨bi,oi,none⟩) 2 cI)∧w'.cell? ⟨bi,oi,none⟩=some (.int .i64 q0)∧w'.cell? ⟨bi,oi+1,none⟩=some (.int .i64 q1))
  (first|exact HS.out _ b4|exact HS.out _ b3|exact HS.out _ (Below.drew (Below.refl _ _)))
  (first
   |(go_at_call 64;refine (HSG.out _).mono ?_;rintro e w9 ⟨rfl,rfl⟩)
   |(go_at_call 25;refine (HK1.out _ (HBQ.out _ b3)).mono ?_;rintro e w4 ⟨rfl,hb4⟩;have b4:=b3.trans (hb4.mono b3.size))
   |(go_at_call 25;refine (HK0.out _ (HBQ.out _ (Below.drew (Below.refl W1.heap.size W1)))).mono ?_;rintro e w3 ⟨rfl,hb3⟩;have b3:=(Below.drew (Below.refl W1.heap.size W1)).trans hb3))
 all_goals (
  have HB5:=Xb (HBQ.out _ b4)
  rw[HFIN.out]
  by_cases hll:(4:Int)<least
  ·go_wp2_with fail
   go_ret
   exact ⟨Z6 (txt_of (by simp[Xz])),HB5.out⟩
  ·go_wp2_with fail
   go_ret
   exact ⟨rfl,HB5.out⟩)
set_option maxRecDepth 100000 in
theorem Xy1 (B:Nat) (x:FN) (f:Nat) (fs:List FN) (ih:Kv B fs f) (hkd:x.kind=20):Q5 B x (Xg (Xf fs f) x) f fs:=by
 intro w bv o N cap n kc kn ki least hfs hx hok hkids hS hl1 hl6
 obtain ⟨⟨c0,c1,c2,c3,c4,c5,hinn⟩,hbv,hB,hn,hN⟩:=hx
 have hLV:=Xr x.kind
 obtain ⟨f8,f9,fo,f2,f3,f5,fz,fzn⟩:=Yg hok
 have hnN:(n:Int)<(N:Int):=by omega
 obtain ⟨_,aC,cC,rfl,hcc⟩:=hinn.cst
 obtain ⟨_,hks,aK,cK,rfl,hkc⟩:=hinn.names
 obtain ⟨_,_,aI,cI,rfl,hic⟩:=hinn.kids
 obtain ⟨M,hM⟩:∃M,x.kids.length=M:=⟨_,rfl⟩
 obtain ⟨MK,hMK⟩:∃MK,x.names.length=MK:=⟨_,rfl⟩
 obtain ⟨MC,hMC⟩:∃MC,x.cst.length=MC:=⟨_,rfl⟩
 have HMM:=Xb hM
 have HMK:=Xb hMK
 have HMC:=Xb hMC
 rw[hM] at c5 hic f8 f9 fo
 rw[hMK] at c4 hkc f9 fzn
 rw[hMC] at c3 hcc
 rw[hM] at hkids
 have HCC:=Xb hcc
 have HKC:=Xb hkc
 have HIC:=Xb hic
 clear hcc hkc hic hM hMK hMC hinn
 have HLV:Hid (∀W,Calls Tryz.prog 61 #[.int .i64 20] W fun e w'=>e= .returned (.int .i64 4)∧w'=W):=fun W=>Xr 20 W (by omega) (by omega)
 rw[hkd] at c0⊢
 rw[show Xp 20=4 from rfl]
 have HB6:Hid (Xg (Xf fs f) x=Xg (Xf fs f) x):=rfl
 have eM:M=2:=by have:=(fo (by omega) (by omega)).2.2;rw[hkd] at this;simp[kidsN] at this;omega
 subst eM
 have HIH:Hid (∀(q:Nat) (l:Int) W,Below w.heap.size w W→q<f→q<fs.length→1≤l→l≤6→Calls Tryz.prog 25 #[.slice (some ⟨bv,o,none⟩) N cap, .int .i64 q, .int .i64 l] W fun e w'=>e= .returned (.string (txt (Xf fs f q l)))∧Below W.heap.size W w'):=fun q l W hb h1 h2 h3 h4=>ih _ q l W (hfs.below (hb.mono hB)) (Nat.le_trans hB hb.size) h1 h2 h3 h4
 obtain ⟨bi,oi,rfl,hbi,hci⟩:=HIC.out (by omega)
 have hbz:bi<w.heap.size:=by omega
 have hbn:¬bi=w.heap.size:=by omega
 obtain ⟨q0,hq0,hf0,hs0,hz0⟩:=hkids 0 (by omega)
 have ci0:=hci 0 (by omega)
 rw[hq0] at ci0
 rw[Nat.add_zero] at ci0
 have HK0:=Xb (fun W hb=>HIH.out q0 5 W hb hf0 hs0 (by omega) (by omega))
 have hzk0:=hz0 5
 obtain ⟨r0,hr0⟩:∃r,Xf fs f q0 5=r:=⟨_,rfl⟩
 obtain ⟨q1,hq1,hf1,hs1,hz1⟩:=hkids 1 (by omega)
 have ci1:=hci 1 (by omega)
 rw[hq1] at ci1
 have HK1:=Xb (fun W hb=>HIH.out q1 5 W hb hf1 hs1 (by omega) (by omega))
 have hzk1:=hz1 5
 obtain ⟨r1,hr1⟩:∃r,Xf fs f q1 5=r:=⟨_,rfl⟩
 have HSB:Hid (Xg (Xf fs f) x=Xf fs f (Xk x.kids 0) 5++Yl 20++Xf fs f (Xk x.kids 1) 5):=by rw[Hid,Xg,hkd];simp[Ji,Qh]
 obtain ⟨S,hSS⟩:∃S,Xg (Xf fs f) x=S:=⟨_,rfl⟩
 rw[hSS] at hS HSB⊢
 clear hSS
 rw[hq0,hr0,hq1,hr1] at HSB
 rw[hr0] at HK0 hzk0
 rw[←Xo] at hzk0
 clear hz0 hr0 hq0 hf0 hs0
 rw[hr1] at HK1 hzk1
 rw[←Xo] at hzk1
 clear hz1 hr1 hq1 hf1 hs1
 have HSG:Hid (∀W,Calls Tryz.prog 64 #[.int .i64 20] W fun e w'=>e= .returned (.string (txt (Yl 20)))∧w'=W):=fun W=>J3 20 W (by simp)
 have hzg:(txt (Yl 20)).size≤4:=by rw[Xo];exact Ko _
 obtain ⟨sg,hsg⟩:∃sg,Yl 20=sg:=⟨_,rfl⟩
 rw[hsg] at HSG hzg HSB
 clear hsg hci HIH ih
 clear f8 f9 fo f2 f3 f5 fz fzn hfs hkids hLV HB6 HCC HKC HIC
 have g1:¬9223372036854775807<(txt r0).size+(txt sg).size:=by omega
 have g2:¬9223372036854775807<(txt r0).size+(txt sg).size+(txt r1).size:=by omega
 obtain ⟨nm,hnm⟩:∃nm,x.name=nm:=⟨_,rfl⟩
 obtain ⟨pl,hpl⟩:∃pl,x.place=pl:=⟨_,rfl⟩
 rw[hnm] at c1
 rw[hpl] at c2
 clear hnm hpl
 obtain ⟨W1,hW1⟩:∃W1,w.alloc (.cells #[.int .i64 20, .string nm, .int .i64 pl, .slice aC MC cC, .slice aK MK cK, .slice (some ⟨bi,oi,none⟩) 2 cI] 51)=W1:=⟨_,rfl⟩
 have HBX:Hid (Below w.heap.size w W1):=by rw[Hid,←hW1];exact (Below.refl _ _).alloc (Nat.le_refl _) _
 have x0:W1.cell? ⟨w.heap.size,0,none⟩=some (.int .i64 20):=by rw[←hW1];simp
 have x5:W1.cell? ⟨w.heap.size,5,none⟩=some (.slice (some ⟨bi,oi,none⟩) 2 cI):=by rw[←hW1];simp
 have hzW:w.heap.size<W1.heap.size:=by rw[←hW1];simp
 have y0:=(Xd HBX.out hbz).trans ci0
 have y1:=(Xd HBX.out hbz).trans ci1
 have HW1:=Xb hW1
 have HS:Hid (∀Y,Below W1.heap.size W1 Y→(Y.cell? ⟨w.heap.size,0,none⟩=some (.int .i64 20)∧Y.cell? ⟨w.heap.size,5,none⟩=some (.slice (some ⟨bi,oi,none⟩) 2 cI)∧Y.cell? ⟨bi,oi,none⟩=some (.int .i64 q0)∧Y.cell? ⟨bi,oi+1,none⟩=some (.int .i64 q1))):=fun Y hY=>⟨(Xd hY hzW).trans x0,(Xd hY hzW).trans x5,(Xd hY (by omega)).trans y0,(Xd hY (by omega)).trans y1⟩
 have HBQ:Hid (∀Y,Below W1.heap.size W1 Y→Below w.heap.size w Y):=fun Y hY=>HBX.out.trans (hY.mono (by omega))
 have HFIN:Hid (txt r0++txt sg++txt r1=txt S):=by rw[Hid,Yo,Yo,HSB.out]
 have hzS:(txt S).size≤24600:=by rw[Xo];exact hS
 clear hW1
 go_enter Tryz.func25,Tryz.ntmps25
 go_wp2_with (go_at_call 61;refine (HLV.out _).mono ?_;rintro e w1 ⟨rfl,rfl⟩)
 go_wp2_with fail
 rw[HW1.out]
 go_region_held3 (fun w'=>w'.cell? ⟨w.heap.size,0,none⟩=some (.int .i64 20)∧w'.cell? ⟨w.heap.size,5,none⟩=some (.slice (some ⟨bi,oi,none⟩) 2 cI)∧w'.cell? ⟨bi,oi,none⟩=some (.int .i64 q0)∧w'.cell? ⟨bi,oi+1,none⟩=some (.int .i64 q1))
  (first|exact HS.out _ b4|exact HS.out _ b3|exact HS.out _ (Below.drew (Below.refl _ _)))
  (first
   |(go_at_call 64;refine (HSG.out _).mono ?_;rintro e w9 ⟨rfl,rfl⟩)
   |(go_at_call 25;refine (HK1.out _ (HBQ.out _ b3)).mono ?_;rintro e w4 ⟨rfl,hb4⟩;have b4:=b3.trans (hb4.mono b3.size))
   |(go_at_call 25;refine (HK0.out _ (HBQ.out _ (Below.drew (Below.refl W1.heap.size W1)))).mono ?_;rintro e w3 ⟨rfl,hb3⟩;have b3:=(Below.drew (Below.refl W1.heap.size W1)).trans hb3))
 all_goals (
  have HB5:=Xb (HBQ.out _ b4)
  rw[HFIN.out]
  by_cases hll:(4:Int)<least
  ·go_wp2_with fail
   go_ret
   exact ⟨Z6 (txt_of (by simp[Xz])),HB5.out⟩
  ·go_wp2_with fail
   go_ret
   exact ⟨rfl,HB5.out⟩)

open Go.RowKit Go.WideShapes
set_option maxRecDepth 100000 in
theorem Xz3 (B:Nat) (x:FN) (f:Nat) (fs:List FN) (ih:Kv B fs f) (hkd:x.kind=22):Q5 B x (Xg (Xf fs f) x) f fs:=by
 intro w bv o N cap n kc kn ki least hfs hx hok hkids hS hl1 hl6
 obtain ⟨⟨c0,c1,c2,c3,c4,c5,hinn⟩,hbv,hB,hn,hN⟩:=hx
 have hLV:=Xr x.kind
 obtain ⟨f8,f9,fo,f2,f3,f5,fz,fzn⟩:=Yg hok
 have hnN:(n:Int)<(N:Int):=by omega
 obtain ⟨_,aC,cC,rfl,hcc⟩:=hinn.cst
 obtain ⟨_,hks,aK,cK,rfl,hkc⟩:=hinn.names
 obtain ⟨_,_,aI,cI,rfl,hic⟩:=hinn.kids
 obtain ⟨M,hM⟩:∃M,x.kids.length=M:=⟨_,rfl⟩
 obtain ⟨MK,hMK⟩:∃MK,x.names.length=MK:=⟨_,rfl⟩
 obtain ⟨MC,hMC⟩:∃MC,x.cst.length=MC:=⟨_,rfl⟩
 have HMM:=Xb hM
 have HMK:=Xb hMK
 have HMC:=Xb hMC
 rw[hM] at c5 hic f8 f9 fo
 rw[hMK] at c4 hkc f9 fzn
 rw[hMC] at c3 hcc
 rw[hM] at hkids
 have HCC:=Xb hcc
 have HKC:=Xb hkc
 have HIC:=Xb hic
 clear hcc hkc hic hM hMK hMC hinn
 have HLV:Hid (∀W,Calls Tryz.prog 61 #[.int .i64 22] W fun e w'=>e= .returned (.int .i64 7)∧w'=W):=fun W=>Xr 22 W (by omega) (by omega)
 rw[hkd] at c0⊢
 rw[show Xp 22=7 from rfl]
 have HB6:Hid (Xg (Xf fs f) x=Xg (Xf fs f) x):=rfl
 have eM:M=3:=by have:=(fo (by omega) (by omega)).2.2;rw[hkd] at this;simp[kidsN] at this;omega
 subst eM
 have HIH:Hid (∀(q:Nat) (l:Int) W,Below w.heap.size w W→q<f→q<fs.length→1≤l→l≤6→Calls Tryz.prog 25 #[.slice (some ⟨bv,o,none⟩) N cap, .int .i64 q, .int .i64 l] W fun e w'=>e= .returned (.string (txt (Xf fs f q l)))∧Below W.heap.size W w'):=fun q l W hb h1 h2 h3 h4=>ih _ q l W (hfs.below (hb.mono hB)) (Nat.le_trans hB hb.size) h1 h2 h3 h4
 obtain ⟨bi,oi,rfl,hbi,hci⟩:=HIC.out (by omega)
 have hbz:bi<w.heap.size:=by omega
 have hbn:¬bi=w.heap.size:=by omega
 obtain ⟨q0,hq0,hf0,hs0,hz0⟩:=hkids 0 (by omega)
 have ci0:=hci 0 (by omega)
 rw[hq0] at ci0
 rw[Nat.add_zero] at ci0
 have HK0:=Xb (fun W hb=>HIH.out q0 1 W hb hf0 hs0 (by omega) (by omega))
 have hzk0:=hz0 1
 obtain ⟨r0,hr0⟩:∃r,Xf fs f q0 1=r:=⟨_,rfl⟩
 obtain ⟨q1,hq1,hf1,hs1,hz1⟩:=hkids 1 (by omega)
 have ci1:=hci 1 (by omega)
 rw[hq1] at ci1
 have HK1:=Xb (fun W hb=>HIH.out q1 1 W hb hf1 hs1 (by omega) (by omega))
 have hzk1:=hz1 1
 obtain ⟨r1,hr1⟩:∃r,Xf fs f q1 1=r:=⟨_,rfl⟩
 obtain ⟨q2,hq2,hf2,hs2,hz2⟩:=hkids 2 (by omega)
 have ci2:=hci 2 (by omega)
 rw[hq2] at ci2
 have HK2:=Xb (fun W hb=>HIH.out q2 1 W hb hf2 hs2 (by omega) (by omega))
 have hzk2:=hz2 1
 obtain ⟨r2,hr2⟩:∃r,Xf fs f q2 1=r:=⟨_,rfl⟩
 have HSB:Hid (Xg (Xf fs f) x= [105,102,32]++Xf fs f (Xk x.kids 0) 1++ [32,116,104,101,110,32]++Xf fs f (Xk x.kids 1) 1++ [32,101,108,115,101,32]++Xf fs f (Xk x.kids 2) 1++ [32,101,110,100]):=by rw[Hid,Xg,hkd];simp
 obtain ⟨S,hSS⟩:∃S,Xg (Xf fs f) x=S:=⟨_,rfl⟩
 rw[hSS] at hS HSB⊢
 clear hSS
 rw[hq0,hr0,hq1,hr1,hq2,hr2] at HSB
 rw[hr0] at HK0 hzk0
 rw[←Xo] at hzk0
 clear hz0 hr0 hq0 hf0 hs0
 rw[hr1] at HK1 hzk1
 rw[←Xo] at hzk1
 clear hz1 hr1 hq1 hf1 hs1
 rw[hr2] at HK2 hzk2
 rw[←Xo] at hzk2
 clear hz2 hr2 hq2 hf2 hs2
 clear hci HIH ih
 clear f8 f9 fo f2 f3 f5 fz fzn hfs hkids hLV HB6 HCC HKC HIC
 have g0:¬9223372036854775807<3+(txt r0).size:=by omega
 have g1:¬9223372036854775807<3+(txt r0).size+6:=by omega
 have g2:¬9223372036854775807<3+(txt r0).size+6+(txt r1).size:=by omega
 have g3:¬9223372036854775807<3+(txt r0).size+6+(txt r1).size+6:=by omega
 have g4:¬9223372036854775807<3+(txt r0).size+6+(txt r1).size+6+(txt r2).size:=by omega
 have g5:¬9223372036854775807<3+(txt r0).size+6+(txt r1).size+6+(txt r2).size+4:=by omega
 obtain ⟨nm,hnm⟩:∃nm,x.name=nm:=⟨_,rfl⟩
 obtain ⟨pl,hpl⟩:∃pl,x.place=pl:=⟨_,rfl⟩
 rw[hnm] at c1
 rw[hpl] at c2
 clear hnm hpl
 obtain ⟨W1,hW1⟩:∃W1,w.alloc (.cells #[.int .i64 22, .string nm, .int .i64 pl, .slice aC MC cC, .slice aK MK cK, .slice (some ⟨bi,oi,none⟩) 3 cI] 51)=W1:=⟨_,rfl⟩
 have HBX:Hid (Below w.heap.size w W1):=by rw[Hid,←hW1];exact (Below.refl _ _).alloc (Nat.le_refl _) _
 have x5:W1.cell? ⟨w.heap.size,5,none⟩=some (.slice (some ⟨bi,oi,none⟩) 3 cI):=by rw[←hW1];simp
 have hzW:w.heap.size<W1.heap.size:=by rw[←hW1];simp
 have y0:=(Xd HBX.out hbz).trans ci0
 have y1:=(Xd HBX.out hbz).trans ci1
 have y2:=(Xd HBX.out hbz).trans ci2
 have HW1:=Xb hW1
 have HS:Hid (∀Y,Below W1.heap.size W1 Y→(Y.cell? ⟨w.heap.size,5,none⟩=some (.slice (some ⟨bi,oi,none⟩) 3 cI)∧Y.cell? ⟨bi,oi,none⟩=some (.int .i64 q0)∧Y.cell? ⟨bi,oi+1,none⟩=some (.int .i64 q1)∧Y.cell? ⟨bi,oi+2,none⟩=some (.int .i64 q2))):=fun Y hY=>⟨(Xd hY hzW).trans x5,(Xd hY (by omega)).trans y0,(Xd hY (by omega)).trans y1,(Xd hY (by omega)).trans y2⟩
 have HBQ:Hid (∀Y,Below W1.heap.size W1 Y→Below w.heap.size w Y):=fun Y hY=>HBX.out.trans (hY.mono (by omega))
 clear hW1
 have hll:¬(7:Int)<least:=by omega
 rw[if_neg hll]
 go_enter Tryz.func25,Tryz.ntmps25
 go_wp2_with (go_at_call 61;refine (HLV.out _).mono ?_;rintro e w1 ⟨rfl,rfl⟩)
 go_wp2_with fail
 rw[HW1.out]
 go_region_held3 (fun w'=>w'.cell? ⟨w.heap.size,5,none⟩=some (.slice (some ⟨bi,oi,none⟩) 3 cI)∧w'.cell? ⟨bi,oi,none⟩=some (.int .i64 q0)∧w'.cell? ⟨bi,oi+1,none⟩=some (.int .i64 q1)∧w'.cell? ⟨bi,oi+2,none⟩=some (.int .i64 q2))
  (first|exact HS.out _ b5|exact HS.out _ b4|exact HS.out _ b3|exact HS.out _ (Below.drew (Below.refl _ _)))
  (first
   |(go_at_call 25;refine (HK2.out _ (HBQ.out _ b4)).mono ?_;rintro e w5 ⟨rfl,hb5⟩;have b5:=b4.trans (hb5.mono b4.size))
   |(go_at_call 25;refine (HK1.out _ (HBQ.out _ b3)).mono ?_;rintro e w4 ⟨rfl,hb4⟩;have b4:=b3.trans (hb4.mono b3.size))
   |(go_at_call 25;refine (HK0.out _ (HBQ.out _ (Below.drew (Below.refl W1.heap.size W1)))).mono ?_;rintro e w3 ⟨rfl,hb3⟩;have b3:=(Below.drew (Below.refl W1.heap.size W1)).trans hb3))
 all_goals (
  have HB5:=Xb (HBQ.out _ b5)
  go_wp2_with fail
  go_ret
  exact ⟨Z6 (txt_of (by rw[HSB.out];simp[Xz])),HB5.out⟩)
theorem Xxx (R:Int→Int→List UInt8) (names:List ByteArray) (kids:List Int) (k:Nat): [123]++Yf R names kids (k+1)= [123]++Yf R names kids k++K6 k++(Xt names k).data.toList++ [58,32]++R (Xk kids k) 3:=by
 rw[Yf];simp only[List.append_assoc]
set_option maxRecDepth 100000 in
theorem X04 (B:Nat) (x:FN) (f:Nat) (fs:List FN) (ih:Kv B fs f) (hkd:x.kind=9):Q5 B x (Xg (Xf fs f) x) f fs:=by
 intro w bv o N cap n kc kn ki least hfs hx hok hkids hS hl1 hl6
 obtain ⟨⟨c0,c1,c2,c3,c4,c5,hinn⟩,hbv,hB,hn,hN⟩:=hx
 have hLV:=Xr x.kind
 obtain ⟨f8,f9,fo,f2,f3,f5,fz,fzn⟩:=Yg hok
 have hnN:(n:Int)<(N:Int):=by omega
 obtain ⟨_,aC,cC,rfl,hcc⟩:=hinn.cst
 obtain ⟨_,hks,aK,cK,rfl,hkc⟩:=hinn.names
 obtain ⟨_,_,aI,cI,rfl,hic⟩:=hinn.kids
 obtain ⟨M,hM⟩:∃M,x.kids.length=M:=⟨_,rfl⟩
 obtain ⟨MK,hMK⟩:∃MK,x.names.length=MK:=⟨_,rfl⟩
 obtain ⟨MC,hMC⟩:∃MC,x.cst.length=MC:=⟨_,rfl⟩
 have HMM:=Xb hM
 have HMK:=Xb hMK
 have HMC:=Xb hMC
 rw[hM] at c5 hic f8 f9 fo
 rw[hMK] at c4 hkc f9 fzn
 rw[hMC] at c3 hcc
 rw[hM] at hkids
 have HCC:=Xb hcc
 have HKC:=Xb hkc
 have HIC:=Xb hic
 clear hcc hkc hic hM hMK hMC hinn
 have HLV:Hid (∀W,Calls Tryz.prog 61 #[.int .i64 9] W fun e w'=>e= .returned (.int .i64 7)∧w'=W):=fun W=>Xr 9 W (by omega) (by omega)
 rw[hkd] at c0⊢
 rw[show Xp 9=7 from rfl]
 have HB6:Hid (Xg (Xf fs f) x=Xg (Xf fs f) x):=rfl
 obtain ⟨eM,hM5,hnz⟩:=f9 hkd
 subst eM
 have HIH:Hid (∀(q:Nat) (l:Int) W,Below w.heap.size w W→q<f→q<fs.length→1≤l→l≤6→Calls Tryz.prog 25 #[.slice (some ⟨bv,o,none⟩) N cap, .int .i64 q, .int .i64 l] W fun e w'=>e= .returned (.string (txt (Xf fs f q l)))∧Below W.heap.size W w'):=fun q l W hb h1 h2 h3 h4=>ih _ q l W (hfs.below (hb.mono hB)) (Nat.le_trans hB hb.size) h1 h2 h3 h4
 have HSB:Hid (Xg (Xf fs f) x= [123]++Yf (Xf fs f) x.names x.kids x.kids.length++ [125]):=by rw[Hid,Xg,hkd];simp
 obtain ⟨S,hSS⟩:∃S,Xg (Xf fs f) x=S:=⟨_,rfl⟩
 rw[hSS] at hS HSB⊢
 clear hSS
 rw[HMM.out] at HSB
 have HNZ:Hid (∀j,j<M→(Xt x.names j).size≤60):=fun j hj=>hnz j hj
 have HLM:Hid (∀k,k≤M→([123]++Yf (Xf fs f) x.names x.kids k).length≤24600):=fun k hk=>by
  have h2:=Xgy (Xf fs f) x.names x.kids hk
  have h3:=hS
  rw[HSB.out] at h3
  simp only[List.length_append,List.length_cons,List.length_nil] at h3⊢
  omega
 have HKIDS:=Xb hkids
 clear hnz
 clear f8 f9 fo f2 f3 f5 fz fzn hfs hkids hLV HB6 HCC
 obtain ⟨nm,hnm⟩:∃nm,x.name=nm:=⟨_,rfl⟩
 obtain ⟨pl,hpl⟩:∃pl,x.place=pl:=⟨_,rfl⟩
 rw[hnm] at c1
 rw[hpl] at c2
 clear hnm hpl hks ih
 obtain ⟨W1,hW1⟩:∃W1,w.alloc (.cells #[.int .i64 9, .string nm, .int .i64 pl, .slice aC MC cC, .slice aK M cK, .slice aI M cI] 51)=W1:=⟨_,rfl⟩
 have HBX:Hid (Below w.heap.size w W1):=by rw[Hid,←hW1];exact (Below.refl _ _).alloc (Nat.le_refl _) _
 have HX4:Hid (W1.cell? ⟨w.heap.size,4,none⟩=some (.slice aK M cK)):=by rw[Hid,←hW1];simp
 have HX5:Hid (W1.cell? ⟨w.heap.size,5,none⟩=some (.slice aI M cI)):=by rw[Hid,←hW1];simp
 have HZX:Hid (W1.heap.size=w.heap.size+1):=by rw[Hid,←hW1];simp
 have HW1:=Xb hW1
 clear hW1
 have hll:¬(7:Int)<least:=by omega
 rw[if_neg hll]
 go_enter Tryz.func25,Tryz.ntmps25
 go_wp2_with (go_at_call 61;refine (HLV.out _).mono ?_;rintro e w1 ⟨rfl,rfl⟩)
 go_wp2_with fail
 rw[HW1.out]
 go_loopw [9,10] (fun s i wr=>∃k:Nat,k≤M∧i= .int .i64 k∧s= .string (txt ([123]++Yf (Xf fs f) x.names x.kids k))∧Below (w.heap.size+1) W1 wr) (fun _ i _=>M-(intOf i).toNat)
 case atStart=>exact ⟨0,Nat.zero_le _,rfl,rfl,Below.refl _ _⟩
 case round =>
  obtain ⟨k,hk,rfl,rfl,hbr⟩:=hrel
  have HBR:=Xb hbr
  have HBW:=Xb (HBX.out.trans (hbr.mono (by omega)))
  have zr:w.heap.size+1≤wr.heap.size:=by have:=hbr.size;rw[HZX.out] at this;exact this
  have x4:=(Xd hbr (show w.heap.size<w.heap.size+1 by omega)).trans HX4.out
  have x5:=(Xd hbr (show w.heap.size<w.heap.size+1 by omega)).trans HX5.out
  have hlm:=HLM.out k hk
  have HPJ:=Xb (Xxx (Xf fs f) x.names x.kids k)
  obtain ⟨D,hD⟩:∃D,[123]++Yf (Xf fs f) x.names x.kids k=D:=⟨_,rfl⟩
  rw[hD] at hlm HPJ⊢
  have HO:=Xb hD
  have hzo:(txt D).size≤24600:=by rw[Xo];exact hlm
  clear hD hbr
  by_cases hlt:k<M
  ·have hlt':(k:Int)<(M:Int):=by omega
   obtain ⟨bi,oi,eai,hbi,hci⟩:=HIC.out (by omega)
   obtain ⟨bk,ok,eak,hbk,hck⟩:=HKC.out (by omega)
   obtain ⟨q,hq,hf,hs,hz⟩:=HKIDS.out k hlt
   have ci:=(Xd (HBW.out.mono hB) hbi).trans (hci k hlt)
   have ck:=(Xd (HBW.out.mono hB) hbk).trans (hck k hlt)
   rw[hq] at ci HPJ
   have HIHQ:=Xb (fun W hb=>HIH.out q 3 W hb hf hs (by omega) (by omega))
   have hzq:=hz 3
   rw[←Xo] at hzq
   have hzk:=HNZ.out k hlt
   obtain ⟨ky,hky⟩:∃ky,Xt x.names k=ky:=⟨_,rfl⟩
   rw[hky] at ck hzk HPJ
   obtain ⟨r,hr⟩:∃r,Xf fs f q 3=r:=⟨_,rfl⟩
   rw[hr] at HPJ hzq HIHQ
   clear hci hck hq hr hky hf hs hz
   subst eai eak
   have HS:Hid (∀Y,Below wr.heap.size wr Y→(Y.cell? ⟨w.heap.size,4,none⟩=some (.slice (some ⟨bk,ok,none⟩) M cK)∧Y.cell? ⟨w.heap.size,5,none⟩=some (.slice (some ⟨bi,oi,none⟩) M cI)∧Y.cell? ⟨bk,ok+k,none⟩=some (.string ky)∧Y.cell? ⟨bi,oi+k,none⟩=some (.int .i64 q))):=fun Y hY=>⟨(Xd hY (by omega)).trans x4,(Xd hY (by omega)).trans x5,(Xd hY (by omega)).trans ck,(Xd hY (by omega)).trans ci⟩
   have HBQ:Hid (∀Y,Below wr.heap.size wr Y→Below w.heap.size w Y):=fun Y hY=>HBW.out.trans (hY.mono (by omega))
   obtain ⟨E,hE⟩:∃E,D++K6 k=E:=⟨_,rfl⟩
   have hzE:(txt E).size≤24602:=by rw[Xo,←hE,List.length_append];have:=Xeg k;rw[Xo] at hzo;omega
   have HE:Hid (E=D++(if k=0 then [] else [44,32])):=by rw[Hid,←hE];rfl
   rw[hE] at HPJ
   clear hE
   have g1:¬9223372036854775807<(txt E).size+ky.size:=by omega
   have g2:¬9223372036854775807<(txt E).size+ky.size+2:=by omega
   have g3:¬9223372036854775807<(txt E).size+ky.size+2+(txt r).size:=by omega
   have HV6:Hid (Value.string (txt E++ky++⟨#[58,32]⟩++txt r)= .string (txt ([123]++Yf (Xf fs f) x.names x.kids (k+1)))):=by
    rw[Hid,HPJ.out]
    exact Kf (txt_of (by simp[Xz]))
   rcases Nat.eq_zero_or_pos k with hk0|hk0
   ·have hk0' : ¬ (0 : Int) < (k : Int) := by omega
    have eE:E=D:=by rw[HE.out,if_pos hk0,List.append_nil]
    subst eE
    have HK0:=Xb hk0
    clear hk0
    go_wp2_with fail
    go_region_held3 (fun w'=>w'.cell? ⟨w.heap.size,4,none⟩=some (.slice (some ⟨bk,ok,none⟩) M cK)∧w'.cell? ⟨w.heap.size,5,none⟩=some (.slice (some ⟨bi,oi,none⟩) M cI)∧w'.cell? ⟨bk,ok+k,none⟩=some (.string ky)∧w'.cell? ⟨bi,oi+k,none⟩=some (.int .i64 q))
     (first|exact HS.out _ b3|exact HS.out _ (Below.drew (Below.refl _ _)))
     (first
      |(go_at_call 25;refine (HIHQ.out _ (HBQ.out _ (Below.drew (Below.refl wr.heap.size wr)))).mono ?_;rintro e w3 ⟨rfl,hb3⟩;have b3:=(Below.drew (Below.refl wr.heap.size wr)).trans hb3))
    all_goals (
     have HB5:=Xb (HBR.out.trans (b3.mono (by omega)))
     go_wp2_with fail
     first
      |exact ⟨⟨k+1,by omega,by go_num,HV6.out,HB5.out⟩,by simp[intOf];omega⟩
      | (go_roundw
         case rel=>exact ⟨k+1,by omega,by go_num,HV6.out,HB5.out⟩
         case measure=>simp[intOf];omega))
   ·have hk0' : (0 : Int) < (k : Int) := by omega
    have eE:txt D++⟨#[44,32]⟩=txt E:=by rw[HE.out,if_neg (by omega)];exact txt_of (by simp[Xz])
    go_wp2_with fail
    try rw[eE]
    go_region_held3 (fun w'=>w'.cell? ⟨w.heap.size,4,none⟩=some (.slice (some ⟨bk,ok,none⟩) M cK)∧w'.cell? ⟨w.heap.size,5,none⟩=some (.slice (some ⟨bi,oi,none⟩) M cI)∧w'.cell? ⟨bk,ok+k,none⟩=some (.string ky)∧w'.cell? ⟨bi,oi+k,none⟩=some (.int .i64 q))
     (first|exact HS.out _ b3|exact HS.out _ (Below.drew (Below.refl _ _)))
     (first
      |(go_at_call 25;refine (HIHQ.out _ (HBQ.out _ (Below.drew (Below.refl wr.heap.size wr)))).mono ?_;rintro e w3 ⟨rfl,hb3⟩;have b3:=(Below.drew (Below.refl wr.heap.size wr)).trans hb3))
    all_goals (
     have HB5:=Xb (HBR.out.trans (b3.mono (by omega)))
     go_wp2_with fail
     first
      |exact ⟨⟨k+1,by omega,by go_num,HV6.out,HB5.out⟩,by simp[intOf];omega⟩
      | (go_roundw
         case rel=>exact ⟨k+1,by omega,by go_num,HV6.out,HB5.out⟩
         case measure=>simp[intOf];omega))
  ·obtain rfl:k=M:=by omega
   go_wp2_with fail
   go_ret
   exact ⟨Z6 (txt_of (by rw[HSB.out,HO.out];simp[Xz])),HBW.out⟩

theorem X03 {B:Nat} {fs:List FN} {f:Nat} (ih:Kv B fs f) {x:FN} (h1:1≤x.kind) (h2:x.kind≤23):Q5 B x (Xg (Xf fs f) x) f fs:=by
 rcases Xmp h1 h2 with h|h|h|h|h|h|h|h|h|h|h|h|h|h|h|h|h|h|h|h|h|h|h
 ·exact X09 B x f fs h
 ·exact X0s B x f fs h
 ·exact X0t B x f fs h
 ·exact X1a B x f fs h
 ·exact X0u B x f fs h
 ·exact X0q B x f fs ih h
 ·exact X0r B x f fs ih h
 ·exact X0v B x f fs ih h
 ·exact X04 B x f fs ih h
 ·exact Xzq B x f fs ih h
 ·exact Xz5 B x f fs h
 ·exact Xz6 B x f fs h
 ·exact Xz7 B x f fs h
 ·exact Xz8 B x f fs h
 ·exact Xy7 B x f fs ih h
 ·exact Xy8 B x f fs ih h
 ·exact Xy9 B x f fs ih h
 ·exact Xyz B x f fs ih h
 ·exact Xy0 B x f fs ih h
 ·exact Xy1 B x f fs ih h
 ·exact Xzp B x f fs ih h
 ·exact Xz3 B x f fs ih h
 ·exact Xzr B x f fs ih h
theorem Xmn {x:FN} (h:Xn x=true):1≤x.kind∧x.kind≤23:=by
 obtain ⟨_,_,fo,_⟩:=Yg h
 by_cases h8:x.kind=8
 ·omega
 by_cases h9:x.kind=9
 ·omega
 exact ⟨(fo h8 h9).1,(fo h8 h9).2.1⟩
theorem Xuv {fs:List FN} (hok:okF fs=true) {f n:Nat} (hn:n<fs.length) (hf:n<f+1):(Xg (Xf fs f) (Xi fs n)).length≤24600:=by
 have:=Xdu hok (f+1) n 0 hn hf
 rw[Xf,Int.toNat_natCast,if_neg (by have:=Xmn ((Kh hok).2.1 n hn).1;unfold Xp;split<;>(try split)<;>(try split)<;>(try split)<;>(try split)<;>(try split)<;>omega)] at this
 exact this
theorem Xxu {fs:List FN} (hok:okF fs=true) {f n:Nat} (hn:n<fs.length) (hf:n<f+1):∀j,j<(Xi fs n).kids.length→∃q:Nat,Xk (Xi fs n).kids j=q∧q<f∧q<fs.length∧∀l,(Xf fs f q l).length≤24600:=by
 intro j hj
 have:=Xc5 ((Kh hok).2.1 n hn).2 hj
 refine ⟨(Xk (Xi fs n).kids j).toNat,by omega,by omega,by omega,fun l=> ?_⟩
 exact Xdu hok f _ l (by omega) (by omega)
theorem Xoo {B:Nat} {fs:List FN} (hok:okF fs=true):∀f,Kv B fs f:=by
 intro f
 induction f with
 |zero=>intro v n least w _ _ h;omega
 | succ f ih =>
  intro v n least w h hB hnf hn hl1 hl6
  obtain ⟨⟨p1,p2⟩,p3,_⟩:=Kh hok
  have h':=h
  obtain ⟨_,a,cap,rfl,hcv⟩:=h
  obtain ⟨bv,ov,rfl,hbv,hcv'⟩:=hcv (by omega)
  obtain ⟨kc,kn,ki,hnd⟩:=hcv' n hn
  obtain ⟨hx,hki⟩:=p3 n hn
  have hk:=Xmn hx
  have:=X03 ih hk.1 hk.2 w bv ov fs.length cap n kc kn ki least h' ⟨hnd,hbv,hB,hn,p2⟩ hx (Xxu hok hn hnf) (Xuv hok hn hnf) hl1 hl6
  rw[Xf,Int.toNat_natCast]
  exact this
set_option maxRecDepth 100000 in
theorem Xdk (B:Nat) (v:Value) (fs:List FN) (w:World) (h:FNodesAt B w v fs) (hB:B≤w.heap.size):
  Calls Tryz.prog 10 #[v] w fun e w'=>e= .returned (.string (txt (Yz fs)))∧Below w.heap.size w w':=by
 have HV:=Xb h
 obtain ⟨_,a,cap,rfl,_⟩:=h
 cases hok:okF fs
 ·have HT:Hid (Yz fs= []):=by rw[Hid,Yz,hok];rfl
  have HOK:=Xb hok
  clear hok
  go_enter Tryz.func10,Tryz.ntmps10
  go_wp2_with fail
  refine (Vd B _ fs _ HV.out hB).mono ?_
  rintro e w1 ⟨rfl,hb1⟩
  rw[HOK.out]
  go_wp2_with fail
  go_ret
  exact ⟨by rw[HT.out];rfl,hb1⟩
 ·have hlen:=(Kh hok).1
  have HT:Hid (Yz fs=Xf fs fs.length ((fs.length-1:Nat):Int) 1):=by
   rw[Hid,Yz,hok,if_pos rfl]
   congr 1
   omega
  have HIH:Hid (∀W,Below w.heap.size w W→Calls Tryz.prog 25 #[.slice a fs.length cap, .int .i64 ((fs.length-1:Nat):Int), .int .i64 1] W fun e w'=>e= .returned (.string (txt (Xf fs fs.length ((fs.length-1:Nat):Int) 1)))∧Below W.heap.size W w'):=fun W hb=>Xoo hok fs.length _ (fs.length-1) 1 W (HV.out.below (hb.mono hB)) (Nat.le_trans hB hb.size) (by omega) (by omega) (by omega) (by omega)
  rw[HT.out]
  have HOK:=Xb hok
  clear hok
  obtain ⟨R,hR⟩:∃R,Xf fs fs.length ((fs.length-1:Nat):Int) 1=R:=⟨_,rfl⟩
  rw[hR] at HIH⊢
  clear hR HT
  obtain ⟨m,hm⟩:∃m:Nat,fs.length-1=m:=⟨_,rfl⟩
  rw[hm] at HIH
  have ew:IntKind.i64.wrap ((fs.length:Int)-1)=(m:Int):=(Xco (by omega) (by omega)).trans (by omega)
  go_enter Tryz.func10,Tryz.ntmps10
  go_wp2_with fail
  refine (Vd B _ fs _ HV.out hB).mono ?_
  rintro e w1 ⟨rfl,hb1⟩
  rw[HOK.out]
  go_wp2_with (go_at_call 25;first|refine (HIH.out _ hb1).mono ?_|(rw[ew];refine (HIH.out _ hb1).mono ?_))
  rintro e w2 ⟨rfl,hb2⟩
  go_wp2_with fail
  go_ret
  exact ⟨rfl,hb1.trans (hb2.mono hb1.size)⟩
end Go.Proofs.YtehihemfepbmfaaGreatDoor
