import Derived.Test.YtehihemfepbmfaaGreatDoorIFyE
import Derived.Test.YtehihemfepbmfaaGreatDoorFSpc3
namespace Go.Proofs.YtehihemfepbmfaaGreatDoor
set_option linter.unusedSectionVars false
set_option maxHeartbeats 6400000
open Go.RowKit
set_option linter.unusedSimpArgs false
set_option linter.unusedVariables false
set_option maxRecDepth 100000 in
theorem X0o {B b:Nat} {F:Value} {fs:List FN} {nm:ByteArray} {pl:Int} {aC aK aI:Option Addr} {MC cC MK cK M cI:Nat} {kids:List Int} {R0:List UInt8} (hM:M≤1) (hR:0<M→∃q:Nat,Xk kids 0=q∧FwR B b F fs q 1 R0) (l:List UInt8) (w:World) (hk:V9 B w aI M kids) (hg:GF B b F l w) (hp:FwP B F fs w) (hlen:(l++([91]++(if M=0 then [] else R0)++ [93])).length≤100000000):
  Calls Tryz.prog 58 #[.pointer (some ⟨b,0,none⟩), .agg #[.int .i64 8, .string nm, .int .i64 pl, .slice aC MC cC, .slice aK MK cK, .slice aI M cI]] w fun e w'=>e= .returned (.tuple #[])∧GF B b F (l++([91]++(if M=0 then [] else R0)++ [93])) w'∧Below B w w'∧Beside b w w':=by
 have z0:=hp.hB
 have hbl:=hg.lt
 obtain ⟨W1,hW1⟩:∃W1,w.alloc (.cells #[.int .i64 8, .string nm, .int .i64 pl, .slice aC MC cC, .slice aK MK cK, .slice aI M cI] 51)=W1:=⟨_,rfl⟩
 have HW1:=Xa hW1
 have HX:Hid (W1.heap[w.heap.size]? =some (.cells #[.int .i64 8, .string nm, .int .i64 pl, .slice aC MC cC, .slice aK MK cK, .slice aI M cI] 51 (0,0))):=by rw[Hid,←hW1];exact heap_alloc_new w _
 have HG:Hid (GF B b F l W1):=by rw[Hid,←hW1];exact hg.alloc _
 have HBX:Hid (Below B w W1):=by rw[Hid,←hW1];exact (Below.refl _ _).alloc z0 _
 have HKX:Hid (Beside b w W1):=by rw[Hid,←hW1];exact Beside.alloc _ _ _
 have HP:=Xa hp
 have z1:B≤W1.heap.size:=Nat.le_trans z0 HBX.out.size
 have hl0:=hlen
 simp only[List.length_append,List.length_cons,List.length_nil,Xm] at hl0
 have HLEN:=Xa hlen
 have hk1:V9 B W1 aI M kids:=⟨hk.1,fun h0=>by
  obtain ⟨bi,oi,e,hbi,hc⟩:=hk.2 h0
  exact ⟨bi,oi,e,hbi,fun i hi=>(Xd HBX.out hbi).trans (hc i hi)⟩⟩
 have HT:=Xa (Xh5 (cap:=cI) hM hR l W1 hk1 HG.out (HP.out.next HBX.out) hlen)
 obtain ⟨SS,hSS⟩:∃SS,([91]++(if M=0 then [] else R0)++ [93])=SS:=⟨_,rfl⟩
 rw[hSS] at HT HLEN⊢
 clear hk hk1 hR hl0 hSS
 clear hg hp hW1 hlen
 go_enter Tryz.func58,Tryz.ntmps58
 go_wp2_with fail
 rw[HW1.out]
 refine HT.out.mono ?_
 rintro e w1 ⟨rfl,f1,b1,k1⟩
 have HF1:=Xa f1
 have HB1:=Xa (HBX.out.trans b1)
 have HK1:=Xa (HKX.out.trans k1)
 have HX1:=Xa (X8 k1 HX.out (by omega) (by decide))
 clear f1 b1 k1
 go_upto_region 21 with fail
 refine wp_region_lit ?_
 refine wpList_load_mid rfl 133 (.global 1) rfl 1 0 rfl wordC _ (HP.out.wd _ HB1.out) Vr rfl Vs ?_
 obtain ⟨J,hJ⟩:∃J,wordC.toArray=J:=⟨_,rfl⟩
 rw[hJ]
 have HJ:=Xa hJ
 clear hJ
 go_wp2_with fail
 go_loopw [5,84] (fun _ i wr=>∃m:Nat,m≤4∧i= .int .i64 m∧Below w1.heap.size w1 wr) (fun _ i _=>4-(intOf i).toNat)
 case atStart=>exact ⟨0,by omega,rfl,Below.refl _ _⟩
 case round=>
  obtain ⟨m,hm,rfl,hbr⟩:=hrel
  have HBR:=Xa hbr
  have zr:=hbr.size
  have x0:wr.cell? ⟨w.heap.size,0,none⟩=some (.int .i64 8):=(Xd hbr (X6 HX1.out)).trans (cellAt HX1.out (i:=0) rfl)
  have hx:=X6 HX1.out
  clear hbr
  rcases (show m=4∨m<4 by omega) with rfl|hlt
  ·go_wp2_with fail
   go_end0
   exact ⟨rfl,HF1.out.keep HBR.out,HB1.out.trans (HBR.out.mono (by have:=HF1.out.lt;have:=HB1.out.size;omega)),HK1.out.trans (Beside.below HBR.out)⟩
  ·obtain ⟨kk,sg,hix,hkk⟩:=J5 HJ.out hlt
   have hin:=Ul hlt
   rw[←hkk] at hin
   have hk2:(kk==8)=false:=by simp;omega
   have hk3:¬kk=8:=by omega
   have hlt':(m:Int)<4:=by omega
   have hne:¬w.heap.size=wr.heap.size:=by omega
   have hle:w.heap.size<wr.heap.size:=by omega
   have HB9:=Xa (HBR.out.alloc zr (.cells #[.int .i64 kk, .string sg] 132))
   clear hkk hin
   go_wp2_with fail
   first
    |exact ⟨⟨m+1,by omega,by go_num,HB9.out⟩,by simp[intOf];omega⟩
    | (go_roundw
       case rel=>exact ⟨m+1,by omega,by go_num,HB9.out⟩
       case measure=>simp[intOf];omega)
set_option maxRecDepth 100000 in
theorem X0p {B b:Nat} {F:Value} {fs:List FN} {nm:ByteArray} {pl:Int} {aC aK aI:Option Addr} {MC cC cK M cI:Nat} {names:List ByteArray} {kids:List Int} {R:Int→Int→List UInt8} (hM5:M≤5) (hN:∀j,j<M→(Xt names j).size≤60) (hR:∀j,j<M→∃q:Nat,Xk kids j=q∧FwR B b F fs q 3 (R (Xk kids j) 3)) (l:List UInt8) (w:World) (hk:V9 B w aI M kids) (hn:0<M→∃b o,aK=some ⟨b,o,none⟩∧b<B∧∀i,i<M→w.cell? ⟨b,o+i,none⟩=some (.string (Xt names i))) (hg:GF B b F l w) (hp:FwP B F fs w) (hlen:(l++([123]++Yf R names kids M++ [125])).length≤100000000):
  Calls Tryz.prog 58 #[.pointer (some ⟨b,0,none⟩), .agg #[.int .i64 9, .string nm, .int .i64 pl, .slice aC MC cC, .slice aK M cK, .slice aI M cI]] w fun e w'=>e= .returned (.tuple #[])∧GF B b F (l++([123]++Yf R names kids M++ [125])) w'∧Below B w w'∧Beside b w w':=by
 have z0:=hp.hB
 have hbl:=hg.lt
 obtain ⟨W1,hW1⟩:∃W1,w.alloc (.cells #[.int .i64 9, .string nm, .int .i64 pl, .slice aC MC cC, .slice aK M cK, .slice aI M cI] 51)=W1:=⟨_,rfl⟩
 have HW1:=Xa hW1
 have HX:Hid (W1.heap[w.heap.size]? =some (.cells #[.int .i64 9, .string nm, .int .i64 pl, .slice aC MC cC, .slice aK M cK, .slice aI M cI] 51 (0,0))):=by rw[Hid,←hW1];exact heap_alloc_new w _
 have HG:Hid (GF B b F l W1):=by rw[Hid,←hW1];exact hg.alloc _
 have HBX:Hid (Below B w W1):=by rw[Hid,←hW1];exact (Below.refl _ _).alloc z0 _
 have HKX:Hid (Beside b w W1):=by rw[Hid,←hW1];exact Beside.alloc _ _ _
 have HP:=Xa hp
 have z1:B≤W1.heap.size:=Nat.le_trans z0 HBX.out.size
 have hl0:=hlen
 simp only[List.length_append,List.length_cons,List.length_nil,Xm] at hl0
 have HLEN:=Xa hlen
 have hk1:V9 B W1 aI M kids:=⟨hk.1,fun h0=>by
  obtain ⟨bi,oi,e,hbi,hc⟩:=hk.2 h0
  exact ⟨bi,oi,e,hbi,fun i hi=>(Xd HBX.out hbi).trans (hc i hi)⟩⟩
 have hn1:0<M→∃b o,aK=some ⟨b,o,none⟩∧b<B∧∀i,i<M→W1.cell? ⟨b,o+i,none⟩=some (.string (Xt names i)):=fun h0=>by
  obtain ⟨bi,oi,e,hbi,hc⟩:=hn h0
  exact ⟨bi,oi,e,hbi,fun i hi=>(Xd HBX.out hbi).trans (hc i hi)⟩
 have HE:Hid (l++([123]++Yf R names kids M++ [125])=l++ [123]++Yf R names kids M++ [125]):=by rw[Hid];simp
 have HT:=Xa (Xiq (cK:=cK) (cI:=cI) (kk:=9) (pl:=pl) (nm:=nm) (aC:=aC) (MC:=MC) (cC:=cC) hM5 hN hR l W1 hk1 hn1 HG.out (HP.out.next HBX.out) (by rw[←HE.out];exact hlen))
 obtain ⟨SS,hSS⟩:∃SS,([123]++Yf R names kids M++ [125])=SS:=⟨_,rfl⟩
 rw[←HE.out,hSS] at HT
 rw[hSS] at HLEN⊢
 clear hk hk1 hn hn1 hN hR hl0 hSS HE
 clear hg hp hW1 hlen
 go_enter Tryz.func58,Tryz.ntmps58
 go_wp2_with fail
 rw[HW1.out]
 refine HT.out.mono ?_
 rintro e w1 ⟨rfl,f1,b1,k1⟩
 have HF1:=Xa f1
 have HB1:=Xa (HBX.out.trans b1)
 have HK1:=Xa (HKX.out.trans k1)
 have HX1:=Xa (X8 k1 HX.out (by omega) (by decide))
 clear f1 b1 k1
 go_upto_region 21 with fail
 refine wp_region_lit ?_
 refine wpList_load_mid rfl 133 (.global 1) rfl 1 0 rfl wordC _ (HP.out.wd _ HB1.out) Vr rfl Vs ?_
 obtain ⟨J,hJ⟩:∃J,wordC.toArray=J:=⟨_,rfl⟩
 rw[hJ]
 have HJ:=Xa hJ
 clear hJ
 go_wp2_with fail
 go_loopw [5,84] (fun _ i wr=>∃m:Nat,m≤4∧i= .int .i64 m∧Below w1.heap.size w1 wr) (fun _ i _=>4-(intOf i).toNat)
 case atStart=>exact ⟨0,by omega,rfl,Below.refl _ _⟩
 case round=>
  obtain ⟨m,hm,rfl,hbr⟩:=hrel
  have HBR:=Xa hbr
  have zr:=hbr.size
  have x0:wr.cell? ⟨w.heap.size,0,none⟩=some (.int .i64 9):=(Xd hbr (X6 HX1.out)).trans (cellAt HX1.out (i:=0) rfl)
  have hx:=X6 HX1.out
  clear hbr
  rcases (show m=4∨m<4 by omega) with rfl|hlt
  ·go_wp2_with fail
   go_end0
   exact ⟨rfl,HF1.out.keep HBR.out,HB1.out.trans (HBR.out.mono (by have:=HF1.out.lt;have:=HB1.out.size;omega)),HK1.out.trans (Beside.below HBR.out)⟩
  ·obtain ⟨kk,sg,hix,hkk⟩:=J5 HJ.out hlt
   have hin:=Ul hlt
   rw[←hkk] at hin
   have hk2:(kk==9)=false:=by simp;omega
   have hk3:¬kk=9:=by omega
   have hlt':(m:Int)<4:=by omega
   have hne:¬w.heap.size=wr.heap.size:=by omega
   have hle:w.heap.size<wr.heap.size:=by omega
   have HB9:=Xa (HBR.out.alloc zr (.cells #[.int .i64 kk, .string sg] 132))
   clear hkk hin
   go_wp2_with fail
   first
    |exact ⟨⟨m+1,by omega,by go_num,HB9.out⟩,by simp[intOf];omega⟩
    | (go_roundw
       case rel=>exact ⟨m+1,by omega,by go_num,HB9.out⟩
       case measure=>simp[intOf];omega)

set_option maxRecDepth 100000 in
theorem Xz9 {B b:Nat} {F:Value} {fs:List FN} {nm:ByteArray} {pl:Int} {aC aK aI:Option Addr} {MC cC MK cK M cI:Nat} (hp0: -80≤pl) (hp1:pl≤80) (l:List UInt8) (w:World) (hg:GF B b F l w) (hp:FwP B F fs w) (hlen:(l++([46,91]++Lib.itoa pl++ [93])).length≤100000000):
  Calls Tryz.prog 58 #[.pointer (some ⟨b,0,none⟩), .agg #[.int .i64 3, .string nm, .int .i64 pl, .slice aC MC cC, .slice aK MK cK, .slice aI M cI]] w fun e w'=>e= .returned (.tuple #[])∧GF B b F (l++([46,91]++Lib.itoa pl++ [93])) w'∧Below B w w'∧Beside b w w':=by
 have z0:=hp.hB
 have hbl:=hg.lt
 obtain ⟨W1,hW1⟩:∃W1,w.alloc (.cells #[.int .i64 3, .string nm, .int .i64 pl, .slice aC MC cC, .slice aK MK cK, .slice aI M cI] 51)=W1:=⟨_,rfl⟩
 have HW1:=Xa hW1
 have HX:Hid (W1.heap[w.heap.size]? =some (.cells #[.int .i64 3, .string nm, .int .i64 pl, .slice aC MC cC, .slice aK MK cK, .slice aI M cI] 51 (0,0))):=by rw[Hid,←hW1];exact heap_alloc_new w _
 have HG:Hid (GF B b F l W1):=by rw[Hid,←hW1];exact hg.alloc _
 have HBX:Hid (Below B w W1):=by rw[Hid,←hW1];exact (Below.refl _ _).alloc z0 _
 have HKX:Hid (Beside b w W1):=by rw[Hid,←hW1];exact Beside.alloc _ _ _
 have HP:=Xa hp
 have z1:B≤W1.heap.size:=Nat.le_trans z0 HBX.out.size
 have hl0:=hlen
 simp only[List.length_append,List.length_cons,List.length_nil,Xm] at hl0
 have HLEN:=Xa hlen
 have hil:=Lib.itoa_length_le pl (by omega) (by omega)
 have CI:=Xa (fun w h=>G0 pl (by omega) (by omega) w h)
 obtain ⟨D,hD⟩:∃D,Lib.itoa pl=D:=⟨_,rfl⟩
 rw[hD] at CI hil hl0 HLEN⊢
 clear hD
 obtain ⟨KY,hKY⟩:∃KY:ByteArray,(⟨#[46,91]⟩:ByteArray)++⟨D.toArray⟩++⟨#[93]⟩=KY:=⟨_,rfl⟩
 have HEQ:Hid (l++KY.data.toList=l++([46,91]++D++ [93])):=by rw[Hid,←hKY];simp
 have hkz:l.length+KY.size≤1000000000:=by
  have:KY.size=D.length+3:=by rw[←hKY,ByteArray.size_append,ByteArray.size_append];show 2+D.toArray.size+1=_;simp;omega
  omega
 have hds:(⟨D.toArray⟩:ByteArray).size≤30:=by show D.toArray.size≤30;simp;omega
 have g1:¬9223372036854775807<2+(⟨D.toArray⟩:ByteArray).size:=by omega
 have g2:¬9223372036854775807<2+(⟨D.toArray⟩:ByteArray).size+1:=by omega
 have g3:¬9223372036854775807<2+D.length:=by omega
 have g4:¬9223372036854775807<2+D.length+1:=by omega
 have x2:W1.cell? ⟨w.heap.size,2,none⟩=some (.int .i64 pl):=cellAt HX.out (i:=2) rfl
 have HTAB:=Xa HP.out.tab
 clear hg hp hW1 hlen
 go_enter Tryz.func58,Tryz.ntmps58
 go_wp2_with fail
 rw[HW1.out]
 go_region_held3 (fun w'=>w'.cell? ⟨w.heap.size,2,none⟩=some (.int .i64 pl))
  (first|exact cellAt (X8 k1 HX9 (by omega) (by decide)) (i:=2) rfl|exact cellAt HX9 (i:=2) rfl|exact x2)
  (first
   |(go_at_call 92;refine (Je Zr HF9 KY hkz (by omega)).mono ?_;rintro e w1 ⟨rfl,f1,b1,k1⟩)
   |(go_at_call 93;refine (CI.out _ (HTAB.out _ (Below.drew HBX.out))).mono ?_;rintro e w9 ⟨rfl,b9⟩;have HX9:=(b9.block _ (X6 HX.out)).trans HX.out;have HF9:=HG.out.drew.keep b9;have z9:W1.heap.size≤w9.heap.size:=b9.size))
 have HF1:Hid (GF B b F (l++([46,91]++D++ [93])) w1):=by rw[Hid,←HEQ.out];exact f1
 have HB1:=Xa (HBX.out.trans (((Below.drew (Below.refl _ _)).trans (b9.mono z1)).trans b1))
 have HK1:=Xa (HKX.out.trans ((show Beside b W1 w9 from (Beside.below b9:Beside b W1.drew w9)).trans k1))
 have HX1:=Xa (X8 k1 HX9 (by omega) (by decide))
 clear f1 b1 k1 x2 b9 HX9 HF9 z9
 go_upto_region 21 with fail
 refine wp_region_lit ?_
 refine wpList_load_mid rfl 133 (.global 1) rfl 1 0 rfl wordC _ (HP.out.wd _ HB1.out) Vr rfl Vs ?_
 obtain ⟨J,hJ⟩:∃J,wordC.toArray=J:=⟨_,rfl⟩
 rw[hJ]
 have HJ:=Xa hJ
 clear hJ
 go_wp2_with fail
 go_loopw [5,84] (fun _ i wr=>∃m:Nat,m≤4∧i= .int .i64 m∧Below w1.heap.size w1 wr) (fun _ i _=>4-(intOf i).toNat)
 case atStart=>exact ⟨0,by omega,rfl,Below.refl _ _⟩
 case round=>
  obtain ⟨m,hm,rfl,hbr⟩:=hrel
  have HBR:=Xa hbr
  have zr:=hbr.size
  have x0:wr.cell? ⟨w.heap.size,0,none⟩=some (.int .i64 3):=(Xd hbr (X6 HX1.out)).trans (cellAt HX1.out (i:=0) rfl)
  have hx:=X6 HX1.out
  clear hbr
  rcases (show m=4∨m<4 by omega) with rfl|hlt
  ·go_wp2_with fail
   go_end0
   exact ⟨rfl,HF1.out.keep HBR.out,HB1.out.trans (HBR.out.mono (by have:=HF1.out.lt;have:=HB1.out.size;omega)),HK1.out.trans (Beside.below HBR.out)⟩
  ·obtain ⟨kk,sg,hix,hkk⟩:=J5 HJ.out hlt
   have hin:=Ul hlt
   rw[←hkk] at hin
   have hk2:(kk==3)=false:=by simp;omega
   have hk3:¬kk=3:=by omega
   have hlt':(m:Int)<4:=by omega
   have hne:¬w.heap.size=wr.heap.size:=by omega
   have hle:w.heap.size<wr.heap.size:=by omega
   have HB9:=Xa (HBR.out.alloc zr (.cells #[.int .i64 kk, .string sg] 132))
   clear hkk hin
   go_wp2_with fail
   first
    |exact ⟨⟨m+1,by omega,by go_num,HB9.out⟩,by simp[intOf];omega⟩
    | (go_roundw
       case rel=>exact ⟨m+1,by omega,by go_num,HB9.out⟩
       case measure=>simp[intOf];omega)

theorem Xq1 {c:List VN} (h:Q9 c=true):Xds false c=J1 c:=by
 unfold Q9 at h
 simp only[Bool.and_eq_true,decide_eq_true_eq] at h
 obtain ⟨⟨⟨h1,h2⟩,_⟩,_⟩:=h
 rw[Xgu h2,h1,J1]
 simp
set_option maxRecDepth 100000 in
theorem X0n {B b:Nat} {F:Value} {fs:List FN} {nm:ByteArray} {pl:Int} {aC aK aI:Option Addr} {MC cC MK cK M cI:Nat} {cst:List VN} (hok:Q9 cst=true) (l:List UInt8) (w:World) (hcs:NodesAt B w (.slice aC MC cC) cst) (hg:GF B b F l w) (hp:FwP B F fs w) (hlen:(l++(J1 cst)).length≤100000000):
  Calls Tryz.prog 58 #[.pointer (some ⟨b,0,none⟩), .agg #[.int .i64 5, .string nm, .int .i64 pl, .slice aC MC cC, .slice aK MK cK, .slice aI M cI]] w fun e w'=>e= .returned (.tuple #[])∧GF B b F (l++(J1 cst)) w'∧Below B w w'∧Beside b w w':=by
 have z0:=hp.hB
 have hbl:=hg.lt
 obtain ⟨W1,hW1⟩:∃W1,w.alloc (.cells #[.int .i64 5, .string nm, .int .i64 pl, .slice aC MC cC, .slice aK MK cK, .slice aI M cI] 51)=W1:=⟨_,rfl⟩
 have HW1:=Xa hW1
 have HX:Hid (W1.heap[w.heap.size]? =some (.cells #[.int .i64 5, .string nm, .int .i64 pl, .slice aC MC cC, .slice aK MK cK, .slice aI M cI] 51 (0,0))):=by rw[Hid,←hW1];exact heap_alloc_new w _
 have HG:Hid (GF B b F l W1):=by rw[Hid,←hW1];exact hg.alloc _
 have HBX:Hid (Below B w W1):=by rw[Hid,←hW1];exact (Below.refl _ _).alloc z0 _
 have HKX:Hid (Beside b w W1):=by rw[Hid,←hW1];exact Beside.alloc _ _ _
 have HP:=Xa hp
 have z1:B≤W1.heap.size:=Nat.le_trans z0 HBX.out.size
 have hl0:=hlen
 simp only[List.length_append,List.length_cons,List.length_nil,Xm] at hl0
 have HLEN:=Xa hlen
 have HE5:=Xa (Xq1 hok)
 have hil:=(Xeh hok).2
 have HNA:=Xa (hcs.below HBX.out)
 have CI:Hid (∀W,Below B W1 W→Calls Tryz.prog 94 #[.slice aC MC cC] W fun e w'=>e= .returned (.string (txt (J1 cst)))∧Below W.heap.size W w'):=fun W hb=>by
  rw[←HE5.out]
  exact Xio B _ cst W (HNA.out.below hb) (Nat.le_trans z1 hb.size) ((HP.out.tab.next (HBX.out.trans hb)).wide (Nat.le_trans z1 hb.size))
 obtain ⟨D,hD⟩:∃D,J1 cst=D:=⟨_,rfl⟩
 rw[hD] at CI hil hl0 HLEN⊢
 clear hD HE5 hok hcs
 obtain ⟨KY,hKY⟩:∃KY:ByteArray,txt D=KY:=⟨_,rfl⟩
 rw[hKY] at CI
 have HEQ:Hid (l++KY.data.toList=l++D):=by rw[Hid,←hKY];simp[txt]
 have hkz:l.length+KY.size≤1000000000:=by
  have:KY.size=D.length:=by rw[←hKY];show D.toArray.size=_;simp
  omega
 clear hKY
 have x3:W1.cell? ⟨w.heap.size,3,none⟩=some (.slice aC MC cC):=cellAt HX.out (i:=3) rfl
 clear hg hp hW1 hlen
 go_enter Tryz.func58,Tryz.ntmps58
 go_wp2_with fail
 rw[HW1.out]
 go_region_held3 (fun w'=>w'.cell? ⟨w.heap.size,3,none⟩=some (.slice aC MC cC))
  (first|exact cellAt (X8 k1 HX9 (by omega) (by decide)) (i:=3) rfl|exact cellAt HX9 (i:=3) rfl|exact x3)
  (first
   |(go_at_call 92;refine (Je Zr HF9 KY hkz (by omega)).mono ?_;rintro e w1 ⟨rfl,f1,b1,k1⟩)
   |(go_at_call 94;refine (CI.out _ (Below.drew (Below.refl _ _))).mono ?_;rintro e w9 ⟨rfl,b9⟩;have HX9:=(b9.block _ (X6 HX.out)).trans HX.out;have HF9:=HG.out.drew.keep b9;have z9:W1.heap.size≤w9.heap.size:=b9.size))
 have HF1:Hid (GF B b F (l++D) w1):=by rw[Hid,←HEQ.out];exact f1
 have HB1:=Xa (HBX.out.trans (((Below.drew (Below.refl _ _)).trans (b9.mono z1)).trans b1))
 have HK1:=Xa (HKX.out.trans ((show Beside b W1 w9 from (Beside.below b9:Beside b W1.drew w9)).trans k1))
 have HX1:=Xa (X8 k1 HX9 (by omega) (by decide))
 clear f1 b1 k1 x3 b9 HX9 HF9 z9
 go_upto_region 21 with fail
 refine wp_region_lit ?_
 refine wpList_load_mid rfl 133 (.global 1) rfl 1 0 rfl wordC _ (HP.out.wd _ HB1.out) Vr rfl Vs ?_
 obtain ⟨J,hJ⟩:∃J,wordC.toArray=J:=⟨_,rfl⟩
 rw[hJ]
 have HJ:=Xa hJ
 clear hJ
 go_wp2_with fail
 go_loopw [5,84] (fun _ i wr=>∃m:Nat,m≤4∧i= .int .i64 m∧Below w1.heap.size w1 wr) (fun _ i _=>4-(intOf i).toNat)
 case atStart=>exact ⟨0,by omega,rfl,Below.refl _ _⟩
 case round=>
  obtain ⟨m,hm,rfl,hbr⟩:=hrel
  have HBR:=Xa hbr
  have zr:=hbr.size
  have x0:wr.cell? ⟨w.heap.size,0,none⟩=some (.int .i64 5):=(Xd hbr (X6 HX1.out)).trans (cellAt HX1.out (i:=0) rfl)
  have hx:=X6 HX1.out
  clear hbr
  rcases (show m=4∨m<4 by omega) with rfl|hlt
  ·go_wp2_with fail
   go_end0
   exact ⟨rfl,HF1.out.keep HBR.out,HB1.out.trans (HBR.out.mono (by have:=HF1.out.lt;have:=HB1.out.size;omega)),HK1.out.trans (Beside.below HBR.out)⟩
  ·obtain ⟨kk,sg,hix,hkk⟩:=J5 HJ.out hlt
   have hin:=Ul hlt
   rw[←hkk] at hin
   have hk2:(kk==5)=false:=by simp;omega
   have hk3:¬kk=5:=by omega
   have hlt':(m:Int)<4:=by omega
   have hne:¬w.heap.size=wr.heap.size:=by omega
   have hle:w.heap.size<wr.heap.size:=by omega
   have HB9:=Xa (HBR.out.alloc zr (.cells #[.int .i64 kk, .string sg] 132))
   clear hkk hin
   go_wp2_with fail
   first
    |exact ⟨⟨m+1,by omega,by go_num,HB9.out⟩,by simp[intOf];omega⟩
    | (go_roundw
       case rel=>exact ⟨m+1,by omega,by go_num,HB9.out⟩
       case measure=>simp[intOf];omega)

theorem Xex {k:Int} (h1:1≤k) (h2:k≤23):k=1∨k=2∨k=3∨k=4∨k=5∨k=6∨k=7∨k=8∨k=9∨k=10∨k=11∨k=12∨k=13∨k=14∨k=15∨k=16∨k=17∨k=18∨k=19∨k=20∨k=21∨k=22∨k=23:=by omega
theorem Xa0 {x:FN} (h:Xn x=true):1≤x.kind∧x.kind≤23:=by
 obtain ⟨_,_,fo,_⟩:=Yg h
 by_cases h8:x.kind=8
 ·omega
 by_cases h9:x.kind=9
 ·omega
 exact ⟨(fo h8 h9).1,(fo h8 h9).2.1⟩
theorem Xxo {R:Int→Int→List UInt8} {x:FN} (h:x.kind=1) (hn:x.name.size=0):Xg R x= [46]++x.name.data.toList:=by
 have:x.name.data.toList= []:=List.eq_nil_of_length_eq_zero (by rw[Xm];exact hn)
 rw[this];unfold Xg;rw[h];rfl
theorem Xxp {R:Int→Int→List UInt8} {x:FN} (h:x.kind=2):Xg R x= [46]++x.name.data.toList:=by unfold Xg;rw[h];rfl
theorem Xxq {R:Int→Int→List UInt8} {x:FN} (h:x.kind=3):Xg R x= [46,91]++Lib.itoa x.place++ [93]:=by unfold Xg;rw[h];rfl
theorem Xxr {R:Int→Int→List UInt8} {x:FN} (h:x.kind=4):Xg R x= [46,91,93]:=by unfold Xg;rw[h];rfl
theorem Xmk {R:Int→Int→List UInt8} {x:FN} (h:x.kind=5):Xg R x=J1 x.cst:=by unfold Xg;rw[h];rfl
theorem Xxs {R:Int→Int→List UInt8} {x:FN} (h:x.kind=8):Xg R x= [91]++(if x.kids.length=0 then [] else R (Xk x.kids 0) 1)++ [93]:=by unfold Xg;rw[h];rfl
theorem Xxt {R:Int→Int→List UInt8} {x:FN} (h:x.kind=9):Xg R x= [123]++Yf R x.names x.kids x.kids.length++ [125]:=by unfold Xg;rw[h];rfl
theorem Xuo {R:Int→Int→List UInt8} {x:FN} (h:x.kind=10):Xg R x= [115,101,108,101,99,116,40]++R (Xk x.kids 0) 1++ [41]:=by unfold Xg;rw[h];rfl
theorem Xup {R:Int→Int→List UInt8} {x:FN} (h:x.kind=11):Xg R x= [108,101,110,103,116,104]:=by unfold Xg;rw[h];rfl
theorem Xuq {R:Int→Int→List UInt8} {x:FN} (h:x.kind=12):Xg R x= [107,101,121,115]:=by unfold Xg;rw[h];rfl
theorem Xur {R:Int→Int→List UInt8} {x:FN} (h:x.kind=13):Xg R x= [110,111,116]:=by unfold Xg;rw[h];rfl
theorem Xus {R:Int→Int→List UInt8} {x:FN} (h:x.kind=14):Xg R x= [101,109,112,116,121]:=by unfold Xg;rw[h];rfl
theorem Xut {R:Int→Int→List UInt8} {x:FN} (h:x.kind=22):Xg R x= [105,102,32]++R (Xk x.kids 0) 1++ [32,116,104,101,110,32]++R (Xk x.kids 1) 1++ [32,101,108,115,101,32]++R (Xk x.kids 2) 1++ [32,101,110,100]:=by unfold Xg;rw[h];rfl
theorem Xdg {k:Int} (h1:1≤k) (h2:k≤23) (hJ:isJ k=true):k=6∨k=7∨k=15∨k=16∨k=17∨k=18∨k=19∨k=20∨k=21∨k=23:=by
 rcases Xex h1 h2 with h|h|h|h|h|h|h|h|h|h|h|h|h|h|h|h|h|h|h|h|h|h|h<;>subst h<;>first|(revert hJ;decide)|omega
theorem Xml {k:Int} (h1:1≤k) (h2:k≤23) (hJ:isJ k=false):k≠6∧k≠7∧k≠15∧k≠16∧k≠17∧k≠18∧k≠19∧k≠20∧k≠21∧k≠23:=by
 refine ⟨?_, ?_, ?_, ?_, ?_, ?_, ?_, ?_, ?_, ?_⟩<;>(rintro rfl;revert hJ;decide)
theorem Xmm {R:Int→Int→List UInt8} {x:FN} (h1:1≤x.kind) (h2:x.kind≤23) (hJ:isJ x.kind=true):Xg R x=R (Xk x.kids 0) (Zw x.kind)++Zo x.kind++(if 0<Yv x.kind then R (Xk x.kids 1) (Yv x.kind) else []):=by
 rcases Xdg h1 h2 hJ with h|h|h|h|h|h|h|h|h|h
 all_goals (unfold Xg;rw[h];first|rfl|simp[Zw,Zo,Yv])
def Xif (B b:Nat) (F:Value) (fs:List FN) (f:Nat) (x:FN):Prop:=∀j,j<x.kids.length→∃q:Nat,Xk x.kids j=q∧∀least,1≤least→least≤6→FwR B b F fs q least (Xf fs f (Xk x.kids j) least)
theorem Xru {B b:Nat} {F:Value} {fs:List FN} {f:Nat} {x:FN} {aC aK aI:Option Addr} {cC cK cI:Nat} (hx:Xn x=true) (hJ:isJ x.kind=false) (ih:Xif B b F fs f x)
  (l:List UInt8) (w:World) (hin:FNodeIn B w x (.slice aC x.cst.length cC) (.slice aK x.names.length cK) (.slice aI x.kids.length cI)) (hg:GF B b F l w) (hp:FwP B F fs w) (hlen:(l++Xg (Xf fs f) x).length≤100000000):
  Calls Tryz.prog 58 #[.pointer (some ⟨b,0,none⟩), .agg #[.int .i64 x.kind, .string x.name, .int .i64 x.place, .slice aC x.cst.length cC, .slice aK x.names.length cK, .slice aI x.kids.length cI]] w fun e w'=>e= .returned (.tuple #[])∧GF B b F (l++Xg (Xf fs f) x) w'∧Below B w w'∧Beside b w w':=by
 obtain ⟨f8,f9,fo,f2,f3,f5,fn,fns⟩:=Yg hx
 obtain ⟨k1,k2⟩:=Xa0 hx
 have hno:=Xml k1 k2 hJ
 have hk:V9 B w aI x.kids.length x.kids:=by
  obtain ⟨_,_,a,c,e,hc⟩:=hin.kids
  injection e with e1 e2 e3
  subst e1
  exact ⟨rfl,hc⟩
 have hn:0<x.names.length→∃b o,aK=some ⟨b,o,none⟩∧b<B∧∀i,i<x.names.length→w.cell? ⟨b,o+i,none⟩=some (.string (Xt x.names i)):=by
  obtain ⟨_,_,a,c,e,hc⟩:=hin.names
  injection e with e1 e2 e3
  subst e1
  exact hc
 rcases Xex k1 k2 with h|h|h|h|h|h|h|h|h|h|h|h|h|h|h|h|h|h|h|h|h|h|h
 ·rw[Xxo h (fn (by omega))] at hlen⊢
  rw[h]
  exact X0c (by have:=fn (by omega);omega) l w hg hp hlen
 ·rw[Xxp h] at hlen⊢
  rw[h]
  refine X0d ?_ l w hg hp hlen
  have:=f2 h;unfold Ya at this;simp only[Bool.and_eq_true,decide_eq_true_eq] at this;exact this.1.1.2
 ·rw[Xxq h] at hlen⊢
  rw[h]
  exact Xz9 (f3 h).1 (f3 h).2 l w hg hp hlen
 ·rw[Xxr h] at hlen⊢
  rw[h]
  exact X0b l w hg hp hlen
 ·rw[Xmk h] at hlen⊢
  rw[h]
  exact X0n (f5 h) l w hin.cst hg hp hlen
 ·omega
 ·omega
 ·rw[Xxs h] at hlen⊢
  rw[h]
  refine X0o (f8 h) (fun h0=> ?_) l w hk hg hp hlen
  obtain ⟨q,hq,hr⟩:=ih 0 h0
  exact ⟨q,hq,hr 1 (by omega) (by omega)⟩
 ·obtain ⟨e1,e2,e3⟩:=f9 h
  rw[Xxt h] at hlen⊢
  rw[h,←e1]
  refine X0p (by omega) (fun j hj=>e3 j (by omega)) (fun j hj=> ?_) l w hk (fun h0=> ?_) hg hp hlen
  ·obtain ⟨q,hq,hr⟩:=ih j hj
   exact ⟨q,hq,hr 3 (by omega) (by omega)⟩
  ·obtain ⟨b',o',g1,g2,g3⟩:=hn (by omega)
   exact ⟨b',o',g1,g2,fun i hi=>g3 i (by omega)⟩
 ·have e:=(fo (by omega) (by omega)).2.2
  rw[h] at e;simp[kidsN] at e
  rw[Xuo h] at hlen⊢
  rw[h]
  obtain ⟨q,hq,hr⟩:=ih 0 (by omega)
  exact Xx5 hq (hr 1 (by omega) (by omega)) (by omega) l w hk hg hp hlen
 ·rw[Xup h] at hlen⊢
  rw[h]
  exact Xzs l w hg hp hlen
 ·rw[Xuq h] at hlen⊢
  rw[h]
  exact Xzt l w hg hp hlen
 ·rw[Xur h] at hlen⊢
  rw[h]
  exact Xzu l w hg hp hlen
 ·rw[Xus h] at hlen⊢
  rw[h]
  exact Xzv l w hg hp hlen
 ·omega
 ·omega
 ·omega
 ·omega
 ·omega
 ·omega
 ·omega
 ·have e:=(fo (by omega) (by omega)).2.2
  rw[h] at e;simp[kidsN] at e
  rw[Xut h] at hlen⊢
  rw[h]
  obtain ⟨q0,hq0,hr0⟩:=ih 0 (by omega)
  obtain ⟨q1,hq1,hr1⟩:=ih 1 (by omega)
  obtain ⟨q2,hq2,hr2⟩:=ih 2 (by omega)
  exact Xx6 hq0 (hr0 1 (by omega) (by omega)) hq1 (hr1 1 (by omega) (by omega)) hq2 (hr2 1 (by omega) (by omega)) (by omega) l w hk hg hp hlen
 ·omega

theorem GB.first {T:TypeId} {B b:Nat} {F:Value} {rest:List Value} {l:List UInt8} {w:World} (h:GB T B b F rest l w):w.cell? ⟨b,0,none⟩=some F:=by
 obtain ⟨hB,p,v,hp,hb,_⟩:=h
 exact cellAt hb (i:=0) (by simp)
theorem JtB.wide {B C:Nat} {w:World} (h:JtB B w) (hBC:B≤C):JtB C w:=fun w2 h2=>h w2 (h2.mono hBC)
theorem Xe2 {k:Int} (h:isJ k=true):Wv k= .tuple #[.agg #[.int .i64 k, .string (txt (Zo k)), .int .i64 (Xp k), .int .i64 (Zw k), .int .i64 (Yv k)], .bool true]:=by unfold Wv;rw[if_pos h];rfl
theorem Xoz {k:Int} (h:isJ k=false):Wv k= .tuple #[.agg #[.int .i64 0, .string ByteArray.empty, .int .i64 0, .int .i64 0, .int .i64 0], .bool false]:=by unfold Wv;rw[h];rfl
theorem Xr9 {k:Int} (h1:1≤k) (h2:k≤23) (hJ:isJ k=true):(kidsN k=1∧Yv k=0∨kidsN k=2∧0<Yv k)∧1≤Zw k∧Zw k≤6∧Yv k≤6∧k≠8∧k≠9:=by
 rcases Xdg h1 h2 hJ with h|h|h|h|h|h|h|h|h|h<;>subst h<;>decide
set_option maxRecDepth 100000 in
theorem Xkk {B b:Nat} {F:Value} {fs:List FN} {f n:Nat} {least:Int} (hx:Xn (Xi fs n)=true) (hn:n<fs.length) (ih:Xif B b F fs f (Xi fs n)) (hJ:isJ (Xi fs n).kind=false):FwR B b F fs n least (Xg (Xf fs f) (Xi fs n)):=by
 intro l w hg hp hlen
 have HP:=Xa hp
 have z0:=hp.hB
 have hbl:=hg.lt
 have c:=hg.first
 obtain ⟨hfl,a,cap,rfl,hcv⟩:=hp.nodes
 obtain ⟨bv,ov,rfl,hbv,hcv'⟩:=hcv (by omega)
 obtain ⟨kc,kn,ki,hnd⟩:=hcv' n hn
 obtain ⟨_,aC,cC,eC,_⟩:=hnd.inn.cst
 obtain ⟨_,_,aK,cK,eK,_⟩:=hnd.inn.names
 obtain ⟨_,_,aI,cI,eI,_⟩:=hnd.inn.kids
 subst eC eK eI
 obtain ⟨x,hxe⟩:∃x,Xi fs n=x:=⟨_,rfl⟩
 rw[hxe] at hx ih hJ hlen hnd⊢
 have HXE:=Xa hxe
 clear hxe
 have c0:=hnd.c0
 have c1:=hnd.c1
 have c2:=hnd.c2
 have c3:=hnd.c3
 have c4:=hnd.c4
 have c5:=hnd.c5
 have hk:=Xa0 hx
 obtain ⟨W1,hW1⟩:∃W1,w.alloc (.cells #[.int .i64 x.kind, .string x.name, .int .i64 x.place, .slice aC x.cst.length cC, .slice aK x.names.length cK, .slice aI x.kids.length cI] 51)=W1:=⟨_,rfl⟩
 have HW1:=Xa hW1
 have HX:Hid (W1.heap[w.heap.size]? =some (.cells #[.int .i64 x.kind, .string x.name, .int .i64 x.place, .slice aC x.cst.length cC, .slice aK x.names.length cK, .slice aI x.kids.length cI] 51 (0,0))):=by rw[Hid,←hW1];exact heap_alloc_new w _
 have HG:Hid (GF B b (.slice (some ⟨bv,ov,none⟩) fs.length cap) l W1):=by rw[Hid,←hW1];exact hg.alloc _
 have HBX:Hid (Below B w W1):=by rw[Hid,←hW1];exact (Below.refl _ _).alloc z0 _
 have HKX:Hid (Beside b w W1):=by rw[Hid,←hW1];exact Beside.alloc _ _ _
 have z1:B≤W1.heap.size:=Nat.le_trans z0 HBX.out.size
 have HJC:=Xa (fun W (hb:Below B w W) (hz:B≤W.heap.size)=>Xbl x.kind W ((hp.jt.next hb).wide hz) hk.1 hk.2)
 rw[Xoz hJ] at HJC
 have HNI:=Xa hnd.inn
 have HWH:=Xa (fun W (hb:Below B w W) (hg:GF B b (.slice (some ⟨bv,ov,none⟩) fs.length cap) l W)=>Xru hx hJ ih l W (hnd.inn.below hb) hg (hp.next hb) hlen)
 have d0:W1.cell? ⟨w.heap.size,0,none⟩=some (.int .i64 x.kind):=cellAt HX.out (i:=0) rfl
 clear hg hp hW1 hlen hx ih hJ hnd hcv hcv'
 go_enter Tryz.func23,Tryz.ntmps23
 go_wp2_with fail
 rw[HW1.out]
 refine (HJC.out W1 HBX.out z1).mono ?_
 rintro e w2 ⟨rfl,b2⟩
 obtain ⟨W2,hW2⟩:∃W2,w2.alloc (.cells #[.int .i64 0, .string ByteArray.empty, .int .i64 0, .int .i64 0, .int .i64 0] 91)=W2:=⟨_,rfl⟩
 have HW2:=Xa hW2
 have HB2:Hid (Below W1.heap.size W1 W2):=by rw[Hid,←hW2];exact b2.alloc b2.size _
 have HG2:=Xa (HG.out.keep HB2.out)
 have HX2:=Xa ((HB2.out.block _ (X6 HX.out)).trans HX.out)
 have HBW:=Xa (HBX.out.trans (HB2.out.mono z1))
 have HKW:=Xa (HKX.out.trans (Beside.below HB2.out))
 have e0:W2.cell? ⟨w.heap.size,0,none⟩=some (.int .i64 x.kind):=cellAt HX2.out (i:=0) rfl
 have e1:W2.cell? ⟨w.heap.size,1,none⟩=some (.string x.name):=cellAt HX2.out (i:=1) rfl
 have e2:W2.cell? ⟨w.heap.size,2,none⟩=some (.int .i64 x.place):=cellAt HX2.out (i:=2) rfl
 have e3:W2.cell? ⟨w.heap.size,3,none⟩=some (.slice aC x.cst.length cC):=cellAt HX2.out (i:=3) rfl
 have e4:W2.cell? ⟨w.heap.size,4,none⟩=some (.slice aK x.names.length cK):=cellAt HX2.out (i:=4) rfl
 have e5:W2.cell? ⟨w.heap.size,5,none⟩=some (.slice aI x.kids.length cI):=cellAt HX2.out (i:=5) rfl
 clear b2 hW2
 go_upto_region 4 with fail
 rw[HW2.out]
 go_wp2_with fail
 refine (HWH.out W2 HBW.out HG2.out).mono ?_
 rintro e w3 ⟨rfl,f3,b3,k3⟩
 have HF3:=Xa f3
 have HB3:=Xa (HBW.out.trans b3)
 have HK3:=Xa (HKW.out.trans k3)
 clear f3 b3 k3
 go_wp2_with fail
 go_end0
 exact ⟨rfl,HF3.out,HB3.out,HK3.out⟩

set_option maxRecDepth 100000 in
theorem Xdm {B b:Nat} {F:Value} {fs:List FN} {f n:Nat} {least:Int} (hx:Xn (Xi fs n)=true) (hn:n<fs.length) (ih:Xif B b F fs f (Xi fs n)) (hJ:isJ (Xi fs n).kind=true) (hl:¬Xp (Xi fs n).kind<least):FwR B b F fs n least (Xg (Xf fs f) (Xi fs n)):=by
 intro l w hg hp hlen
 have z0:=hp.hB
 have hbl:=hg.lt
 have c:=hg.first
 obtain ⟨hfl,a,cap,rfl,hcv⟩:=hp.nodes
 obtain ⟨bv,ov,rfl,hbv,hcv'⟩:=hcv (by omega)
 obtain ⟨kc,kn,ki,hnd⟩:=hcv' n hn
 obtain ⟨_,aC,cC,eC,_⟩:=hnd.inn.cst
 obtain ⟨_,_,aK,cK,eK,_⟩:=hnd.inn.names
 obtain ⟨_,_,aI,cI,eI,hkc⟩:=hnd.inn.kids
 subst eC eK eI
 obtain ⟨x,hxe⟩:∃x,Xi fs n=x:=⟨_,rfl⟩
 rw[hxe] at hx ih hJ hlen hnd hl hkc⊢
 have HXE:=Xa hxe
 clear hxe
 have c0:=hnd.c0
 have c1:=hnd.c1
 have c2:=hnd.c2
 have c3:=hnd.c3
 have c4:=hnd.c4
 have c5:=hnd.c5
 have hk:=Xa0 hx
 obtain ⟨hM,jl1,jl2,jr,j8,j9⟩:=Xr9 hk.1 hk.2 hJ
 have hkn:=((Yg hx).2.2.1 j8 j9).2.2
 have HKC:Hid (V9 B w aI x.kids.length x.kids):=⟨rfl,hkc⟩
 obtain ⟨W1,hW1⟩:∃W1,w.alloc (.cells #[.int .i64 x.kind, .string x.name, .int .i64 x.place, .slice aC x.cst.length cC, .slice aK x.names.length cK, .slice aI x.kids.length cI] 51)=W1:=⟨_,rfl⟩
 have HW1:=Xa hW1
 have HX:Hid (W1.heap[w.heap.size]? =some (.cells #[.int .i64 x.kind, .string x.name, .int .i64 x.place, .slice aC x.cst.length cC, .slice aK x.names.length cK, .slice aI x.kids.length cI] 51 (0,0))):=by rw[Hid,←hW1];exact heap_alloc_new w _
 have HG:Hid (GF B b (.slice (some ⟨bv,ov,none⟩) fs.length cap) l W1):=by rw[Hid,←hW1];exact hg.alloc _
 have HBX:Hid (Below B w W1):=by rw[Hid,←hW1];exact (Below.refl _ _).alloc z0 _
 have HKX:Hid (Beside b w W1):=by rw[Hid,←hW1];exact Beside.alloc _ _ _
 have z1:B≤W1.heap.size:=Nat.le_trans z0 HBX.out.size
 have HJC:=Xa (fun W (hb:Below B w W) (hz:B≤W.heap.size)=>Xbl x.kind W ((hp.jt.next hb).wide hz) hk.1 hk.2)
 rw[Xe2 hJ] at HJC
 have hbody:=Xmm (R:=Xf fs f) hk.1 hk.2 hJ
 rw[hbody] at hlen⊢
 have hlen':(l++Xf fs f (Xk x.kids 0) (Zw x.kind)++(txt (Zo x.kind)).data.toList++(if 0<Yv x.kind then Xf fs f (Xk x.kids 1) (Yv x.kind) else [])).length≤100000000:=by
  simp only[List.length_append] at hlen⊢
  have:(txt (Zo x.kind)).data.toList=Zo x.kind:=by simp[txt]
  rw[this];omega
 have HEQ:Hid (l++(Xf fs f (Xk x.kids 0) (Zw x.kind)++Zo x.kind++(if 0<Yv x.kind then Xf fs f (Xk x.kids 1) (Yv x.kind) else []))=l++Xf fs f (Xk x.kids 0) (Zw x.kind)++(txt (Zo x.kind)).data.toList++(if 0<Yv x.kind then Xf fs f (Xk x.kids 1) (Yv x.kind) else [])):=by
  have:(txt (Zo x.kind)).data.toList=Zo x.kind:=by simp[txt]
  rw[Hid,this];simp only[List.append_assoc]
 rw[HEQ.out]
 have HWH:Hid (∀W,Below B w W→GF B b (.slice (some ⟨bv,ov,none⟩) fs.length cap) l W→Calls Tryz.prog 60 #[.pointer (some ⟨b,0,none⟩), .agg #[.int .i64 x.kind, .string (txt (Zo x.kind)), .int .i64 (Xp x.kind), .int .i64 (Zw x.kind), .int .i64 (Yv x.kind)], .slice aI x.kids.length cI] W fun e w'=>e= .returned (.tuple #[])∧GF B b (.slice (some ⟨bv,ov,none⟩) fs.length cap) (l++Xf fs f (Xk x.kids 0) (Zw x.kind)++(txt (Zo x.kind)).data.toList++(if 0<Yv x.kind then Xf fs f (Xk x.kids 1) (Yv x.kind) else [])) w'∧Below B W w'∧Beside b W w'):=by
  intro W hb hgW
  refine Xfe (kids:=x.kids) (by omega) ?_ (fun h0=> ?_) l W ⟨HKC.out.1,fun h0=> ?_⟩ hgW (hp.next hb) hlen'
  ·obtain ⟨q,hq,hr⟩:=ih 0 (by omega)
   exact ⟨q,hq,hr _ jl1 jl2⟩
  ·obtain ⟨q,hq,hr⟩:=ih 1 (by omega)
   exact ⟨q,hq,hr _ (by omega) jr⟩
  ·obtain ⟨bi,oi,e,hbi,hc⟩:=HKC.out.2 h0
   exact ⟨bi,oi,e,hbi,fun i hi=>(Xd hb hbi).trans (hc i hi)⟩
 have d0:W1.cell? ⟨w.heap.size,0,none⟩=some (.int .i64 x.kind):=cellAt HX.out (i:=0) rfl
 clear hg hp hW1 hlen hx ih hJ hnd hcv hcv' hkc hbody hlen' HEQ HKC
 obtain ⟨RR,hRR⟩:∃RR,l++Xf fs f (Xk x.kids 0) (Zw x.kind)++(txt (Zo x.kind)).data.toList++(if 0<Yv x.kind then Xf fs f (Xk x.kids 1) (Yv x.kind) else [])=RR:=⟨_,rfl⟩
 obtain ⟨sg,hsg⟩:∃sg,txt (Zo x.kind)=sg:=⟨_,rfl⟩
 obtain ⟨lv,hlv⟩:∃lv,Xp x.kind=lv:=⟨_,rfl⟩
 obtain ⟨lf,hlf⟩:∃lf,Zw x.kind=lf:=⟨_,rfl⟩
 obtain ⟨rg,hrg⟩:∃rg,Yv x.kind=rg:=⟨_,rfl⟩
 simp only[hRR] at HWH⊢
 rw[hsg,hlv,hlf,hrg] at HWH HJC
 rw[hlv] at hl
 clear hRR hsg hlv hlf hrg hM jl1 jl2 jr j8 j9 hkn
 go_enter Tryz.func23,Tryz.ntmps23
 go_wp2_with fail
 rw[HW1.out]
 refine (HJC.out W1 HBX.out z1).mono ?_
 rintro e w2 ⟨rfl,b2⟩
 obtain ⟨W2,hW2⟩:∃W2,w2.alloc (.cells #[.int .i64 x.kind, .string sg, .int .i64 lv, .int .i64 lf, .int .i64 rg] 91)=W2:=⟨_,rfl⟩
 have HW2:=Xa hW2
 have HB2:Hid (Below W1.heap.size W1 W2):=by rw[Hid,←hW2];exact b2.alloc b2.size _
 have HG2:=Xa (HG.out.keep HB2.out)
 have HX2:=Xa ((HB2.out.block _ (X6 HX.out)).trans HX.out)
 have HY2:Hid (W2.heap[w2.heap.size]? =some (.cells #[.int .i64 x.kind, .string sg, .int .i64 lv, .int .i64 lf, .int .i64 rg] 91 (0,0))):=by rw[Hid,←hW2];exact heap_alloc_new w2 _
 have HBW:=Xa (HBX.out.trans (HB2.out.mono z1))
 have HKW:=Xa (HKX.out.trans (Beside.below HB2.out))
 have e0:W2.cell? ⟨w2.heap.size,0,none⟩=some (.int .i64 x.kind):=cellAt HY2.out (i:=0) rfl
 have e1:W2.cell? ⟨w2.heap.size,1,none⟩=some (.string sg):=cellAt HY2.out (i:=1) rfl
 have e2:W2.cell? ⟨w2.heap.size,2,none⟩=some (.int .i64 lv):=cellAt HY2.out (i:=2) rfl
 have e3:W2.cell? ⟨w2.heap.size,3,none⟩=some (.int .i64 lf):=cellAt HY2.out (i:=3) rfl
 have e4:W2.cell? ⟨w2.heap.size,4,none⟩=some (.int .i64 rg):=cellAt HY2.out (i:=4) rfl
 have e5:W2.cell? ⟨w.heap.size,5,none⟩=some (.slice aI x.kids.length cI):=cellAt HX2.out (i:=5) rfl
 clear b2 hW2
 go_upto_region 3 with fail
 rw[HW2.out]
 go_wp2_with fail
 refine (HWH.out W2 HBW.out HG2.out).mono ?_
 rintro e w3 ⟨rfl,f3,b3,k3⟩
 have HF3:=Xa f3
 have HB3:=Xa (HBW.out.trans b3)
 have HK3:=Xa (HKW.out.trans k3)
 clear f3 b3 k3
 go_wp2_with fail
 go_end0
 exact ⟨rfl,HF3.out,HB3.out,HK3.out⟩

theorem WdB.wide {B C:Nat} {w:World} (h:WdB B w) (hBC:B≤C):WdB C w:=fun w2 h2=>h w2 (h2.mono hBC)
set_option maxRecDepth 100000 in
theorem Xkv {B b:Nat} {F:Value} {fs:List FN} {n:Nat} {least:Int} {R:List UInt8} (hx:Xn (Xi fs n)=true) (hn:n<fs.length) (hR:FwR B b F fs n 1 R) (hJ:isJ (Xi fs n).kind=true) (hl:Xp (Xi fs n).kind<least):FwR B b F fs n least ([40]++R++ [41]):=by
 intro l w hg hp hlen
 have z0:=hp.hB
 have hbl:=hg.lt
 have c:=hg.first
 obtain ⟨hfl,a,cap,rfl,hcv⟩:=hp.nodes
 obtain ⟨bv,ov,rfl,hbv,hcv'⟩:=hcv (by omega)
 obtain ⟨kc,kn,ki,hnd⟩:=hcv' n hn
 obtain ⟨_,aC,cC,eC,_⟩:=hnd.inn.cst
 obtain ⟨_,_,aK,cK,eK,_⟩:=hnd.inn.names
 obtain ⟨_,_,aI,cI,eI,_⟩:=hnd.inn.kids
 subst eC eK eI
 obtain ⟨x,hxe⟩:∃x,Xi fs n=x:=⟨_,rfl⟩
 rw[hxe] at hx hJ hnd hl
 clear hxe
 have c0:=hnd.c0
 have c1:=hnd.c1
 have c2:=hnd.c2
 have c3:=hnd.c3
 have c4:=hnd.c4
 have c5:=hnd.c5
 have hk:=Xa0 hx
 obtain ⟨W1,hW1⟩:∃W1,w.alloc (.cells #[.int .i64 x.kind, .string x.name, .int .i64 x.place, .slice aC x.cst.length cC, .slice aK x.names.length cK, .slice aI x.kids.length cI] 51)=W1:=⟨_,rfl⟩
 have HW1:=Xa hW1
 have HX:Hid (W1.heap[w.heap.size]? =some (.cells #[.int .i64 x.kind, .string x.name, .int .i64 x.place, .slice aC x.cst.length cC, .slice aK x.names.length cK, .slice aI x.kids.length cI] 51 (0,0))):=by rw[Hid,←hW1];exact heap_alloc_new w _
 have HG:Hid (GF B b (.slice (some ⟨bv,ov,none⟩) fs.length cap) l W1):=by rw[Hid,←hW1];exact hg.alloc _
 have HBX:Hid (Below B w W1):=by rw[Hid,←hW1];exact (Below.refl _ _).alloc z0 _
 have HKX:Hid (Beside b w W1):=by rw[Hid,←hW1];exact Beside.alloc _ _ _
 have z1:B≤W1.heap.size:=Nat.le_trans z0 HBX.out.size
 have HJC:=Xa (fun W (hb:Below B w W) (hz:B≤W.heap.size)=>Xbl x.kind W ((hp.jt.next hb).wide hz) hk.1 hk.2)
 rw[Xe2 hJ] at HJC
 have HEQ:Hid (l++([40]++R++ [41])=l++(⟨#[40]⟩:ByteArray).data.toList++R++(⟨#[41]⟩:ByteArray).data.toList):=by rw[Hid];simp
 rw[HEQ.out] at hlen⊢
 have HWH:=Xa (fun W (hb:Below B w W) (hgW:GF B b (.slice (some ⟨bv,ov,none⟩) fs.length cap) l W)=>Ju hR ⟨#[40]⟩ ⟨#[41]⟩ l W hgW (hp.next hb) hlen)
 have d0:W1.cell? ⟨w.heap.size,0,none⟩=some (.int .i64 x.kind):=cellAt HX.out (i:=0) rfl
 clear hg hp hW1 hlen hx hR hJ hnd hcv hcv' HEQ
 obtain ⟨RR,hRR⟩:∃RR,l++(⟨#[40]⟩:ByteArray).data.toList++R++(⟨#[41]⟩:ByteArray).data.toList=RR:=⟨_,rfl⟩
 obtain ⟨sg,hsg⟩:∃sg,txt (Zo x.kind)=sg:=⟨_,rfl⟩
 obtain ⟨lv,hlv⟩:∃lv,Xp x.kind=lv:=⟨_,rfl⟩
 obtain ⟨lf,hlf⟩:∃lf,Zw x.kind=lf:=⟨_,rfl⟩
 obtain ⟨rg,hrg⟩:∃rg,Yv x.kind=rg:=⟨_,rfl⟩
 simp only[hRR] at HWH⊢
 rw[hsg,hlv,hlf,hrg] at HJC
 rw[hlv] at hl
 clear hRR hsg hlv hlf hrg
 go_enter Tryz.func23,Tryz.ntmps23
 go_wp2_with fail
 rw[HW1.out]
 refine (HJC.out W1 HBX.out z1).mono ?_
 rintro e w2 ⟨rfl,b2⟩
 obtain ⟨W2,hW2⟩:∃W2,w2.alloc (.cells #[.int .i64 x.kind, .string sg, .int .i64 lv, .int .i64 lf, .int .i64 rg] 91)=W2:=⟨_,rfl⟩
 have HW2:=Xa hW2
 have HB2:Hid (Below W1.heap.size W1 W2):=by rw[Hid,←hW2];exact b2.alloc b2.size _
 have HG2:=Xa (HG.out.keep HB2.out)
 have HY2:Hid (W2.heap[w2.heap.size]? =some (.cells #[.int .i64 x.kind, .string sg, .int .i64 lv, .int .i64 lf, .int .i64 rg] 91 (0,0))):=by rw[Hid,←hW2];exact heap_alloc_new w2 _
 have HBW:=Xa (HBX.out.trans (HB2.out.mono z1))
 have HKW:=Xa (HKX.out.trans (Beside.below HB2.out))
 have e2:W2.cell? ⟨w2.heap.size,2,none⟩=some (.int .i64 lv):=cellAt HY2.out (i:=2) rfl
 clear b2 hW2
 go_upto_region 3 with fail
 rw[HW2.out]
 go_wp2_with fail
 refine (HWH.out W2 HBW.out HG2.out).mono ?_
 rintro e w3 ⟨rfl,f3,b3,k3⟩
 have HF3:=Xa f3
 have HB3:=Xa (HBW.out.trans b3)
 have HK3:=Xa (HKW.out.trans k3)
 clear f3 b3 k3
 go_wp2_with fail
 go_end0
 exact ⟨rfl,HF3.out,HB3.out,HK3.out⟩
theorem Xwf (k:Int):Xp k≤7∧1≤Xp k:=by
 unfold Xp
 split<;>(try split)<;>(try split)<;>(try split)<;>(try split)<;>(try split)<;>omega
theorem Xpt {B b:Nat} {F:Value} {fs:List FN} (hok:okF fs=true):∀f n,n<f→n<fs.length→∀least,1≤least→least≤6→FwR B b F fs n least (Xf fs f n least):=by
 intro f
 induction f with
 |zero=>intro n h;omega
 | succ f ih =>
  intro n hf hn least h1 h6
  obtain ⟨hx,hki⟩:=(Kh hok).2.1 n hn
  have hkr:Xif B b F fs f (Xi fs n):=fun j hj=>by
   have:=Xc5 hki hj
   refine ⟨(Xk (Xi fs n).kids j).toNat,by omega,fun l g1 g6=> ?_⟩
   have e:Xk (Xi fs n).kids j=(((Xk (Xi fs n).kids j).toNat:Nat):Int):=by omega
   rw[e,Int.toNat_natCast]
   exact ih _ (by omega) (by omega) l g1 g6
  rw[Xf,Int.toNat_natCast]
  cases hJ:isJ (Xi fs n).kind
  ·have hl:¬Xp (Xi fs n).kind<least:=by unfold isJ at hJ;simp at hJ;omega
   rw[if_neg hl]
   exact Xkk hx hn hkr hJ
  ·by_cases hl:Xp (Xi fs n).kind<least
   ·rw[if_pos hl]
    exact Xkv hx hn (Xdm hx hn hkr hJ (by have:=Xwf (Xi fs n).kind;omega)) hJ hl
   ·rw[if_neg hl]
    exact Xdm hx hn hkr hJ hl
theorem Xpu {R:Int→Int→List UInt8} {x:FN} (hx:Xn x=true):Xg R x≠ []:=by
 have hk:=Xa0 hx
 intro e
 cases hJ:isJ x.kind
 ·have hno:=Xml hk.1 hk.2 hJ
  rcases Xex hk.1 hk.2 with h|h|h|h|h|h|h|h|h|h|h|h|h|h|h|h|h|h|h|h|h|h|h
  all_goals first
   |omega
   |(have:=(Xeh ((Yg hx).2.2.2.2.2.1 h)).1;rw[Xmk h] at e;rw[e] at this;simp at this;done)
   |(unfold Xg at e;rw[h] at e;revert e;simp;done)
 ·rw[Xmm hk.1 hk.2 hJ] at e
  have:Zo x.kind= []:=by
   simp only[List.append_eq_nil_iff] at e
   exact e.1.2
  rcases Xdg hk.1 hk.2 hJ with h|h|h|h|h|h|h|h|h|h<;>(rw[h] at this;revert this;decide)
theorem Xsw {fs:List FN} {f n:Nat} {least:Int} (hx:Xn (Xi fs n)=true):Xf fs (f+1) n least≠ []:=by
 rw[Xf,Int.toNat_natCast]
 split
 ·simp
 ·exact Xpu hx
theorem Xyc (w:World) (F:Value):GF w.heap.size w.heap.size F [] (w.alloc (.cells #[F, .pointer none, .slice none 0 0] 42)):=
 ⟨Nat.le_refl _, .pointer none, .slice none 0 0, .inl rfl,heap_alloc_new w _,World.ownsRow_nil _ _ _ _,by simp[Value.ownBlock]⟩
set_option maxRecDepth 100000 in
theorem Xc3 (B:Nat) (v:Value) (fs:List FN) (w:World) (h:FNodesAt B w v fs) (hB:B≤w.heap.size) (hjt:JtB w.heap.size w) (hwd:WdB w.heap.size w) (htab:TabB w.heap.size w):
  Calls Tryz.prog 9 #[v] w fun e w'=>e= .returned (.string (txt (Yz fs)))∧Below w.heap.size w w':=by
 have HV:=Xb h
 have HJT:=Xb hjt
 have HWD:=Xb hwd
 have HTAB:=Xb htab
 clear hjt hwd htab
 obtain ⟨_,a,cap,rfl,_⟩:=h
 cases hok:okF fs
 ·have HT:Hid (Yz fs= []):=by rw[Hid,Yz,hok];rfl
  have HOK:=Xb hok
  clear hok
  go_enter Tryz.func9,Tryz.ntmps9
  go_wp2_with fail
  refine (K5 B _ fs _ HV.out hB).mono ?_
  rintro e w1 ⟨rfl,hb1⟩
  rw[HOK.out]
  go_wp2_with fail
  go_ret
  exact ⟨by rw[HT.out];rfl,hb1⟩
 ·have hlen:=(Kh hok).1
  have HT:Hid (Yz fs=Xf fs fs.length ((fs.length-1:Nat):Int) 1):=by
   rw[Hid,Yz,hok,if_pos rfl]
   congr 1
   omega
  have HL:=Xb (Xdu hok fs.length (fs.length-1) 1 (by omega) (by omega))
  have HPO:Hid (Xf fs fs.length ((fs.length-1:Nat):Int) 1≠ []):=by
   obtain ⟨f,hf⟩:∃f,fs.length=f+1:=⟨fs.length-1,by omega⟩
   rw[Hid]
   have:=Xsw (fs:=fs) (f:=f) (n:=fs.length-1) (least:=1) ((Kh hok).2.1 _ (by omega)).1
   rwa [←hf] at this
  have HIH:Hid (∀W b,FwR W b (.slice a fs.length cap) fs (fs.length-1) 1 (Xf fs fs.length ((fs.length-1:Nat):Int) 1)):=fun W b=>Xpt hok fs.length (fs.length-1) (by omega) (by omega) 1 (by omega) (by omega)
  rw[HT.out]
  have HOK:=Xb hok
  clear hok
  obtain ⟨R,hR⟩:∃R,Xf fs fs.length ((fs.length-1:Nat):Int) 1=R:=⟨_,rfl⟩
  rw[hR] at HIH HL HPO⊢
  clear hR HT
  obtain ⟨m,hm⟩:∃m:Nat,fs.length-1=m:=⟨_,rfl⟩
  rw[hm] at HIH
  have ew:IntKind.i64.wrap ((fs.length:Int)-1)=(m:Int):=(Xco (by omega) (by omega)).trans (by omega)
  clear hm
  go_enter Tryz.func9,Tryz.ntmps9
  go_wp2_with fail
  refine (K5 B _ fs _ HV.out hB).mono ?_
  rintro e w1 ⟨rfl,hb1⟩
  rw[HOK.out]
  have z1:=hb1.size
  have HB1:=Xb hb1
  have HGN:=Xb (Xyc w1 (.slice a fs.length cap))
  have HBN:Hid (Below w1.heap.size w1 (w1.alloc (.cells #[.slice a fs.length cap, .pointer none, .slice none 0 0] 42))):=(Below.refl _ _).alloc (Nat.le_refl _) _
  have HFP:Hid (FwP w1.heap.size (.slice a fs.length cap) fs (w1.alloc (.cells #[.slice a fs.length cap, .pointer none, .slice none 0 0] 42))):=
   ⟨((HV.out.below (hb1.mono hB)).wide (by omega)).below HBN.out,((HJT.out.next hb1).wide z1).next HBN.out,((HWD.out.next hb1).wide z1).next HBN.out,((HTAB.out.next hb1).wide z1).next HBN.out,HBN.out.size⟩
  clear hb1
  go_wp2_with (go_at_call 23;first|refine (HIH.out _ _ [] _ HGN.out HFP.out (by rw[List.nil_append];have:=HL.out;omega)).mono ?_|(rw[ew];refine (HIH.out _ _ [] _ HGN.out HFP.out (by rw[List.nil_append];have:=HL.out;omega)).mono ?_))
  rintro e w2 ⟨rfl,f2,b2,_⟩
  rw[List.nil_append] at f2
  have HF2:=Xb f2
  have HB2:=Xb (HBN.out.trans b2)
  clear f2 b2
  go_wp2_with fail
  refine (Xps HF2.out HPO.out).mono ?_
  rintro e w3 ⟨rfl,b3⟩
  have HB3:=Xb (HB1.out.trans ((HB2.out.trans b3).mono z1))
  clear b3
  go_wp2_with fail
  go_ret
  exact ⟨by first|rfl|simp[txt],HB3.out⟩
end Go.Proofs.YtehihemfepbmfaaGreatDoor
