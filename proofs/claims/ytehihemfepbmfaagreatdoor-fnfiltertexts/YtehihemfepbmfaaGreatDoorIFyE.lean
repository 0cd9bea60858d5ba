import Derived.Test.YtehihemfepbmfaaGreatDoorIFj
import Derived.Test.YtehihemfepbmfaaGreatDoorIJson
import Derived.Deep.RegionHeld3
namespace Go.Proofs.YtehihemfepbmfaaGreatDoor
set_option linter.unusedSectionVars false
set_option maxHeartbeats 6400000
open Go.RowKit
set_option linter.unusedSimpArgs false
set_option linter.unusedVariables false
def wordC:List Value:= [.int .i64 11, .string (txt [108,101,110,103,116,104]), .int .i64 12, .string (txt [107,101,121,115]), .int .i64 13, .string (txt [110,111,116]), .int .i64 14, .string (txt [101,109,112,116,121])]
def WdB (B:Nat) (w:World):Prop:=∀w',Below B w w'→w'.rangeAt 1 0 wordC
theorem WdB.next {B:Nat} {w w':World} (h:WdB B w) (hb:Below B w w'):WdB B w':=fun w2 h2=>h w2 (hb.trans h2)
structure FwP (B:Nat) (F:Value) (fs:List FN) (w:World):Prop where
 nodes:FNodesAt B w F fs
 jt:JtB B w
 wd:WdB B w
 tab:TabB B w
 hB:B≤w.heap.size
theorem FwP.next {B:Nat} {F:Value} {fs:List FN} {w w':World} (h:FwP B F fs w) (hb:Below B w w'):FwP B F fs w':=
 ⟨h.nodes.below hb,h.jt.next hb,h.wd.next hb,h.tab.next hb,Nat.le_trans h.hB hb.size⟩
abbrev GF (B b:Nat) (F:Value) (l:List UInt8) (w:World):Prop:=GB 42 B b F [] l w
def FwR (B b:Nat) (F:Value) (fs:List FN) (n:Nat) (least:Int) (R:List UInt8):Prop:=∀(l:List UInt8) (w:World),GF B b F l w→FwP B F fs w→(l++R).length≤100000000→
 Calls Tryz.prog 23 #[.pointer (some ⟨b,0,none⟩), .int .i64 n, .int .i64 least] w fun e w'=>e= .returned (.tuple #[])∧GF B b F (l++R) w'∧Below B w w'∧Beside b w w'
set_option maxRecDepth 100000 in
theorem Ju {B b:Nat} {F:Value} {fs:List FN} {n:Nat} {R:List UInt8} (h:FwR B b F fs n 1 R) (s1 s2:ByteArray) (l:List UInt8) (w:World) (hg:GF B b F l w) (hp:FwP B F fs w) (hlen:(l++s1.data.toList++R++s2.data.toList).length≤100000000):
  Calls Tryz.prog 59 #[.pointer (some ⟨b,0,none⟩), .string s1, .int .i64 n, .string s2] w fun e w'=>e= .returned (.tuple #[])∧GF B b F (l++s1.data.toList++R++s2.data.toList) w'∧Below B w w'∧Beside b w w':=by
 have HG:=Xa hg
 have HP:=Xa hp
 have HH:=Xa h
 have z0:=hp.hB
 simp only[List.length_append,Xm] at hlen
 clear hg hp h
 go_enter Tryz.func59,Tryz.ntmps59
 go_wp2_with fail
 refine (Je Zr HG.out s1 (by omega) z0).mono ?_
 rintro e w1 ⟨rfl,f1,b1,k1⟩
 have HF1:=Xa f1
 have HB1:=Xa b1
 have HK1:=Xa k1
 clear f1 b1 k1
 go_wp2_with fail
 refine (HH.out _ _ HF1.out (HP.out.next HB1.out) (by simp only[List.length_append,Xm];omega)).mono ?_
 rintro e w2 ⟨rfl,f2,b2,k2⟩
 have HF2:=Xa f2
 have HB2:=Xa (HB1.out.trans b2)
 have HK2:=Xa (HK1.out.trans k2)
 have z2:=HB2.out.size
 clear f2 b2 k2
 go_wp2_with fail
 refine (Je Zr HF2.out s2 (by simp only[List.length_append,Xm];omega) (by omega)).mono ?_
 rintro e w3 ⟨rfl,f3,b3,k3⟩
 have HF3:=Xa f3
 have HB3:=Xa (HB2.out.trans b3)
 have HK3:=Xa (HK2.out.trans k3)
 clear f3 b3 k3
 go_wp2_with fail
 go_end0
 exact ⟨rfl,HF3.out,HB3.out,HK3.out⟩
def V9 (B:Nat) (w:World) (a:Option Addr) (M:Nat) (kids:List Int):Prop:=kids.length=M∧(0<M→∃b o,a=some ⟨b,o,none⟩∧b<B∧∀i,i<M→w.cell? ⟨b,o+i,none⟩=some (.int .i64 (Xk kids i)))
set_option maxRecDepth 100000 in
theorem Xh5 {B b:Nat} {F:Value} {fs:List FN} {kids:List Int} {a:Option Addr} {M cap:Nat} {R:List UInt8} (hM:M≤1) (hR:0<M→∃q:Nat,Xk kids 0=q∧FwR B b F fs q 1 R) (l:List UInt8) (w:World) (hk:V9 B w a M kids) (hg:GF B b F l w) (hp:FwP B F fs w) (hlen:(l++([91]++(if M=0 then [] else R)++ [93])).length≤100000000):
  Calls Tryz.prog 95 #[.pointer (some ⟨b,0,none⟩), .slice a M cap] w fun e w'=>e= .returned (.tuple #[])∧GF B b F (l++([91]++(if M=0 then [] else R)++ [93])) w'∧Below B w w'∧Beside b w w':=by
 have HG:=Xa hg
 have HP:=Xa hp
 have z0:=hp.hB
 clear hg hp
 rcases (show M=0∨M=1 by omega) with rfl|rfl
 ·clear hR hk
  rw[if_pos rfl] at hlen⊢
  simp only[List.length_append,List.length_cons,List.length_nil] at hlen
  go_enter Tryz.func95,Tryz.ntmps95
  go_wp2_with fail
  refine (Je Zr HG.out ⟨#[91,93]⟩ (by show l.length+2≤_;omega) z0).mono ?_
  rintro e w1 ⟨rfl,f1,b1,k1⟩
  have HF1:=Xa f1
  have HB1:=Xa b1
  have HK1:=Xa k1
  clear f1 b1 k1
  go_wp2_with fail
  refine bodyPost_ret (results_none rfl _ _ _) rfl ?_
  exact ⟨rfl,HF1.out,HB1.out,HK1.out⟩
 ·obtain ⟨q,hq,hr⟩:=hR (by omega)
  obtain ⟨_,hk⟩:=hk
  obtain ⟨bi,oi,rfl,hbi,hc⟩:=hk (by omega)
  have c0:=hc 0 (by omega)
  rw[hq,Nat.add_zero] at c0
  rw[if_neg (by omega)] at hlen⊢
  have HH:=Xa hr
  have HE:Hid (l++([91]++R++ [93])=l++(⟨#[91]⟩:ByteArray).data.toList++R++(⟨#[93]⟩:ByteArray).data.toList):=by rw[Hid];simp
  rw[HE.out] at hlen⊢
  have HL:=Xa hlen
  clear hr hc hk hq hlen
  go_enter Tryz.func95,Tryz.ntmps95
  go_wp2_with fail
  refine (Ju HH.out ⟨#[91]⟩ ⟨#[93]⟩ l w HG.out HP.out HL.out).mono ?_
  rintro e w1 ⟨rfl,f1,b1,k1⟩
  have HF1:=Xa f1
  have HB1:=Xa b1
  have HK1:=Xa k1
  clear f1 b1 k1
  go_wp2_with fail
  go_end0
  exact ⟨rfl,HF1.out,HB1.out,HK1.out⟩

theorem X8 {b c:Nat} {w w':World} {cs:Array Value} {T:TypeId} {z:Nat×Nat} (k:Beside b w w') (h:w.heap[c]? =some (.cells cs T z)) (hb:c≠b) (hT:T≠5):w'.heap[c]? =some (.cells cs T z):=
 (k.2 c (X6 h) hb (fun cs2 z2 e=>by rw[h] at e;injection e with e;injection e with _ e2;exact hT e2)).trans h
set_option maxRecDepth 100000 in
theorem Xfe {B b:Nat} {F:Value} {fs:List FN} {kids:List Int} {a:Option Addr} {M cap:Nat} {kk lv lf rg:Int} {sg:ByteArray} {R0 R1:List UInt8} (hM:M=1∧rg=0∨M=2∧0<rg)
  (hR0:∃q:Nat,Xk kids 0=q∧FwR B b F fs q lf R0) (hR1:0<rg→∃q:Nat,Xk kids 1=q∧FwR B b F fs q rg R1) (l:List UInt8) (w:World) (hk:V9 B w a M kids) (hg:GF B b F l w) (hp:FwP B F fs w) (hlen:(l++R0++sg.data.toList++(if 0<rg then R1 else [])).length≤100000000):
  Calls Tryz.prog 60 #[.pointer (some ⟨b,0,none⟩), .agg #[.int .i64 kk, .string sg, .int .i64 lv, .int .i64 lf, .int .i64 rg], .slice a M cap] w fun e w'=>e= .returned (.tuple #[])∧GF B b F (l++R0++sg.data.toList++(if 0<rg then R1 else [])) w'∧Below B w w'∧Beside b w w':=by
 have z0:=hp.hB
 have HR1:=Xa hR1
 clear hR1
 obtain ⟨q0,e0,hr0⟩:=hR0
 obtain ⟨_,hk⟩:=hk
 obtain ⟨bi,oi,rfl,hbi,hc⟩:=hk (by omega)
 have c0:=hc 0 (by omega)
 rw[e0,Nat.add_zero] at c0
 have hbl:=hg.lt
 have HC:=Xa hc
 obtain ⟨W1,hW1⟩:∃W1,w.alloc (.cells #[.int .i64 kk, .string sg, .int .i64 lv, .int .i64 lf, .int .i64 rg] 91)=W1:=⟨_,rfl⟩
 have HW1:=Xa hW1
 have HX:Hid (W1.heap[w.heap.size]? =some (.cells #[.int .i64 kk, .string sg, .int .i64 lv, .int .i64 lf, .int .i64 rg] 91 (0,0))):=by rw[Hid,←hW1];exact heap_alloc_new w _
 have HG:Hid (GF B b F l W1):=by rw[Hid,←hW1];exact hg.alloc _
 have HBX:Hid (Below B w W1):=by rw[Hid,←hW1];exact (Below.refl _ _).alloc z0 _
 have HKX:Hid (Beside b w W1):=by rw[Hid,←hW1];exact Beside.alloc _ _ _
 have HPW:=Xa hp
 have HR0:=Xa hr0
 have d0:=(Xd HBX.out hbi).trans c0
 have x3:W1.cell? ⟨w.heap.size,3,none⟩=some (.int .i64 lf):=cellAt HX.out (i:=3) rfl
 simp only[List.length_append,Xm] at hlen
 have hl1:l.length+R0.length+sg.size≤100000000:=by omega
 have HLEN:=Xa hlen
 clear hg hp hr0 hk hc e0 hW1 hlen c0
 rcases hM with ⟨rfl,hrg⟩|⟨rfl,hrg⟩
 ·have hrg':¬(0:Int)<rg:=by omega
  rw[if_neg hrg',List.append_nil]
  clear hrg
  go_enter Tryz.func60,Tryz.ntmps60
  go_wp2_with fail
  rw[HW1.out]
  go_region_held3 (fun w'=>w'.cell? ⟨w.heap.size,3,none⟩=some (.int .i64 lf)∧w'.cell? ⟨bi,oi,none⟩=some (.int .i64 q0))
   (first|exact ⟨cellAt (X8 k2 HX.out (by omega) (by decide)) (i:=3) rfl,(Xd b2 hbi).trans d0⟩|exact ⟨x3,d0⟩)
   (first
    |(go_at_call 23;refine (HR0.out l _ HG.out.drew (HPW.out.next (Below.drew HBX.out)) (by simp only[List.length_append];omega)).mono ?_;rintro e w2 ⟨rfl,f2,b2,k2⟩))
  have HF2:=Xa f2
  have HB2:=Xa (HBX.out.trans ((Below.drew (Below.refl _ _)).trans b2))
  have HK2:=Xa (HKX.out.trans (show Beside b W1 w2 from k2))
  have HX2:=Xa (X8 k2 HX.out (by omega) (by decide))
  have z2:=HB2.out.size
  have x1:w2.cell? ⟨w.heap.size,1,none⟩=some (.string sg):=cellAt HX2.out (i:=1) rfl
  have hb2:=HF2.out.lt
  clear f2 b2 k2 x3 d0
  go_wp2_with fail
  go_region_held3 (fun w'=>w'.cell? ⟨w.heap.size,1,none⟩=some (.string sg))
   (first|exact cellAt (X8 k3 HX2.out (by omega) (by decide)) (i:=1) rfl|exact x1)
   (first
    |(go_at_call 92;refine (Je Zr HF2.out.drew sg (by simp only[List.length_append];omega) (by simp;omega)).mono ?_;rintro e w3 ⟨rfl,f3,b3,k3⟩))
  have HF3:=Xa f3
  have HB3:=Xa (HB2.out.trans ((Below.drew (Below.refl _ _)).trans b3))
  have HK3:=Xa (HK2.out.trans (show Beside b w2 w3 from k3))
  have HX3:=Xa (X8 k3 HX2.out (by omega) (by decide))
  have z3:=HB3.out.size
  have x4:w3.cell? ⟨w.heap.size,4,none⟩=some (.int .i64 rg):=cellAt HX3.out (i:=4) rfl
  clear f3 b3 k3 x1
  go_wp2_with fail
  go_end0
  exact ⟨rfl,HF3.out,HB3.out,HK3.out⟩
 ·obtain ⟨q1,e1,hr1⟩:=HR1.out hrg
  have HRR1:=Xa hr1
  have HC1:=Xa (HC.out 1 (by omega))
  rw[e1] at HC1
  have hl2:l.length+R0.length+sg.size+R1.length≤100000000:=by have:=HLEN.out;rw[if_pos hrg] at this;omega
  rw[if_pos hrg]
  clear hr1 e1
  go_enter Tryz.func60,Tryz.ntmps60
  go_wp2_with fail
  rw[HW1.out]
  go_region_held3 (fun w'=>w'.cell? ⟨w.heap.size,3,none⟩=some (.int .i64 lf)∧w'.cell? ⟨bi,oi,none⟩=some (.int .i64 q0))
   (first|exact ⟨cellAt (X8 k2 HX.out (by omega) (by decide)) (i:=3) rfl,(Xd b2 hbi).trans d0⟩|exact ⟨x3,d0⟩)
   (first
    |(go_at_call 23;refine (HR0.out l _ HG.out.drew (HPW.out.next (Below.drew HBX.out)) (by simp only[List.length_append];omega)).mono ?_;rintro e w2 ⟨rfl,f2,b2,k2⟩))
  have HF2:=Xa f2
  have HB2:=Xa (HBX.out.trans ((Below.drew (Below.refl _ _)).trans b2))
  have HK2:=Xa (HKX.out.trans (show Beside b W1 w2 from k2))
  have HX2:=Xa (X8 k2 HX.out (by omega) (by decide))
  have z2:=HB2.out.size
  have x1:w2.cell? ⟨w.heap.size,1,none⟩=some (.string sg):=cellAt HX2.out (i:=1) rfl
  have hb2:=HF2.out.lt
  clear f2 b2 k2 x3 d0
  go_wp2_with fail
  go_region_held3 (fun w'=>w'.cell? ⟨w.heap.size,1,none⟩=some (.string sg))
   (first|exact cellAt (X8 k3 HX2.out (by omega) (by decide)) (i:=1) rfl|exact x1)
   (first
    |(go_at_call 92;refine (Je Zr HF2.out.drew sg (by simp only[List.length_append];omega) (by simp;omega)).mono ?_;rintro e w3 ⟨rfl,f3,b3,k3⟩))
  have HF3:=Xa f3
  have HB3:=Xa (HB2.out.trans ((Below.drew (Below.refl _ _)).trans b3))
  have HK3:=Xa (HK2.out.trans (show Beside b w2 w3 from k3))
  have HX3:=Xa (X8 k3 HX2.out (by omega) (by decide))
  have z3:=HB3.out.size
  have x4:w3.cell? ⟨w.heap.size,4,none⟩=some (.int .i64 rg):=cellAt HX3.out (i:=4) rfl
  clear f3 b3 k3 x1
  have y1:=(Xd HB3.out hbi).trans HC1.out
  go_wp2_with fail
  go_region_held3 (fun w'=>w'.cell? ⟨w.heap.size,4,none⟩=some (.int .i64 rg)∧w'.cell? ⟨bi,oi+1,none⟩=some (.int .i64 q1))
   (first|exact ⟨cellAt (X8 k4 HX3.out (by have:=HF3.out.lt;omega) (by decide)) (i:=4) rfl,(Xd b4 hbi).trans y1⟩|exact ⟨x4,y1⟩)
   (first
    |(go_at_call 23;refine (HRR1.out _ _ HF3.out.drew (HPW.out.next (Below.drew HB3.out)) (by simp only[List.length_append,Xm];omega)).mono ?_;rintro e w4 ⟨rfl,f4,b4,k4⟩))
  have HF4:=Xa f4
  have HB4:=Xa (HB3.out.trans ((Below.drew (Below.refl _ _)).trans b4))
  have HK4:=Xa (HK3.out.trans (show Beside b w3 w4 from k4))
  clear f4 b4 k4
  go_wp2_with fail
  go_end0
  exact ⟨rfl,HF4.out,HB4.out,HK4.out⟩

theorem Xpq (l:List UInt8) (R:Int→Int→List UInt8) (names:List ByteArray) (kids:List Int) (k:Nat):l++ [123]++Yf R names kids (k+1)=l++ [123]++Yf R names kids k++K6 k++((Xt names k).data.toList++ [58,32])++R (Xk kids k) 3:=by
 rw[Yf];simp only[List.append_assoc]
set_option maxRecDepth 100000 in
theorem Xiq {B b:Nat} {F:Value} {fs:List FN} {names:List ByteArray} {kids:List Int} {aK aI:Option Addr} {M cK cI:Nat} {kk pl:Int} {nm:ByteArray} {aC:Option Addr} {MC cC:Nat} {R:Int→Int→List UInt8} (hM5:M≤5)
  (hN:∀j,j<M→(Xt names j).size≤60) (hR:∀j,j<M→∃q:Nat,Xk kids j=q∧FwR B b F fs q 3 (R (Xk kids j) 3)) (l:List UInt8) (w:World) (hk:V9 B w aI M kids)
  (hn:0<M→∃b o,aK=some ⟨b,o,none⟩∧b<B∧∀i,i<M→w.cell? ⟨b,o+i,none⟩=some (.string (Xt names i))) (hg:GF B b F l w) (hp:FwP B F fs w) (hlen:(l++ [123]++Yf R names kids M++ [125]).length≤100000000):
  Calls Tryz.prog 96 #[.pointer (some ⟨b,0,none⟩), .agg #[.int .i64 kk, .string nm, .int .i64 pl, .slice aC MC cC, .slice aK M cK, .slice aI M cI]] w fun e w'=>e= .returned (.tuple #[])∧GF B b F (l++ [123]++Yf R names kids M++ [125]) w'∧Below B w w'∧Beside b w w':=by
 have z0:=hp.hB
 have HN:=Xa hN
 have HR:=Xa hR
 have HK:=Xa hk.2
 have HNM:=Xa hn
 have hbl:=hg.lt
 clear hN hR hk hn
 obtain ⟨W1,hW1⟩:∃W1,w.alloc (.cells #[.int .i64 kk, .string nm, .int .i64 pl, .slice aC MC cC, .slice aK M cK, .slice aI M cI] 51)=W1:=⟨_,rfl⟩
 have HW1:=Xa hW1
 have HX:Hid (W1.heap[w.heap.size]? =some (.cells #[.int .i64 kk, .string nm, .int .i64 pl, .slice aC MC cC, .slice aK M cK, .slice aI M cI] 51 (0,0))):=by rw[Hid,←hW1];exact heap_alloc_new w _
 have HG:Hid (GF B b F l W1):=by rw[Hid,←hW1];exact hg.alloc _
 have HBX:Hid (Below B w W1):=by rw[Hid,←hW1];exact (Below.refl _ _).alloc z0 _
 have HKX:Hid (Beside b w W1):=by rw[Hid,←hW1];exact Beside.alloc _ _ _
 have HP:=Xa hp
 have HLM:Hid (∀k,k≤M→(l++ [123]++Yf R names kids k).length+1≤100000000):=fun k hk=>by
  have h2:=Xgy R names kids hk
  simp only[List.length_append,List.length_cons,List.length_nil] at hlen⊢
  omega
 have hl0:l.length+1≤100000000:=by simp only[List.length_append,List.length_cons,List.length_nil] at hlen;omega
 have z1:B≤W1.heap.size:=Nat.le_trans z0 HBX.out.size
 clear hg hp hW1 hlen
 go_enter Tryz.func96,Tryz.ntmps96
 go_wp2_with fail
 rw[HW1.out]
 refine (Xl2 Zr HG.out 123 (by omega) z1).mono ?_
 rintro e w1 ⟨rfl,f1,b1,k1⟩
 have HF1:=Xa f1
 have HB1:=Xa (HBX.out.trans b1)
 have HK1:=Xa (HKX.out.trans k1)
 have HX1:=Xa (X8 k1 HX.out (by omega) (by decide))
 have x4:w1.cell? ⟨w.heap.size,4,none⟩=some (.slice aK M cK):=cellAt HX1.out (i:=4) rfl
 clear f1 b1 k1
 go_wp2_with fail
 go_loopw [4,5,13] (fun _ _ i wr=>∃k:Nat,k≤M∧i= .int .i64 k∧GF B b F (l++ [123]++Yf R names kids k) wr∧Below B w wr∧Beside b w wr∧wr.heap[w.heap.size]? =some (.cells #[.int .i64 kk, .string nm, .int .i64 pl, .slice aC MC cC, .slice aK M cK, .slice aI M cI] 51 (0,0))) (fun _ _ i _=>M-(intOf i).toNat)
 case atStart=>exact ⟨0,Nat.zero_le _,rfl,by rw[Yf,List.append_nil];exact HF1.out,HB1.out,HK1.out,HX1.out⟩
 case round=>
  obtain ⟨k,hk,rfl,hf,hb,hks,hx⟩:=hrel
  have HF:=Xa hf
  have HB:=Xa hb
  have HKS:=Xa hks
  have HXR:=Xa hx
  have zr:=hb.size
  have hblr:=hf.lt
  have hlm0:=HLM.out k hk
  obtain ⟨D,hD⟩:∃D,l++ [123]++Yf R names kids k=D:=⟨_,rfl⟩
  have HPJ:=Xa (Xpq l R names kids k)
  rw[hD] at HF HPJ hlm0
  have HD:=Xa hD
  clear hf hb hks hx x4 hD
  by_cases hlt:k<M
  ·have hlt':(k:Int)<(M:Int):=by omega
   obtain ⟨bk,ok,rfl,hbk,hck⟩:=HNM.out (by omega)
   obtain ⟨bi,oi,rfl,hbi,hci⟩:=HK.out (by omega)
   obtain ⟨q,hq,hr⟩:=HR.out k hlt
   have ck:=(Xd HB.out hbk).trans (hck k hlt)
   have hks:=HN.out k hlt
   have hlm:=HLM.out (k+1) (by omega)
   rw[HPJ.out] at hlm
   have HCI:=Xa (hci k hlt)
   rw[hq] at HCI
   have HRQ:=Xa hr
   have HRE:Hid (R (Xk kids k) 3=R (Xk kids k) 3):=rfl
   obtain ⟨RQ,hRQ⟩:∃RQ,R (Xk kids k) 3=RQ:=⟨_,rfl⟩
   rw[hRQ] at HRQ HPJ hlm
   obtain ⟨ky,hky⟩:∃ky,Xt names k=ky:=⟨_,rfl⟩
   rw[hky] at ck hks HPJ hlm
   have hsp:=Xeg k
   have HSP:Hid (K6 k=if k=0 then [] else [44,32]):=rfl
   simp only[List.length_append,List.length_cons,List.length_nil,Xm] at hlm
   clear hck hci hq hr hRQ hky HRE
   rcases Nat.eq_zero_or_pos k with hk0|hk0
   rotate_left
   focus
    have hk0':(0:Int)<(k:Int):=by omega
    have hsp2 : D.length + 2 ≤ 100000000 := by have : (K6 k).length = 2 := by rw [HSP.out, if_neg (by omega)]; rfl
                                               omega
    go_wp2_with fail
    refine (Je Zr HF.out ⟨#[44,32]⟩ (by show D.length+2≤_;omega) (by omega)).mono ?_
    rintro e w2 ⟨rfl,f2,b2,k2⟩
    have HF2:Hid (GF B b F (D++K6 k) w2):=by rw[Hid,HSP.out,if_neg (by omega)];exact f2
    have HB2:=Xa (HB.out.trans b2)
    have HK2:=Xa (HKS.out.trans k2)
    have HX2:=Xa (X8 k2 HXR.out (by omega) (by decide))
    have z2:=HB2.out.size
    clear f2 b2 k2
   rotate_left
   focus
    have hk0':¬(0:Int)<(k:Int):=by omega
    obtain ⟨w2,hw2⟩:∃w2,w2=wr:=⟨_,rfl⟩
    subst hw2
    have HF2:Hid (GF B b F (D++K6 k) w2):=by rw[Hid,HSP.out,if_pos hk0,List.append_nil];exact HF.out
    have HB2:=HB
    have HK2:=HKS
    have HX2:=HXR
    have z2:=HB2.out.size
    have HK0:=Xa hk0
    clear hk0
   all_goals
    clear HF HB HKS HXR HSP
    obtain ⟨E,hE⟩:∃E,D++K6 k=E:=⟨_,rfl⟩
    have hEl:E.length+(ky.size+2)+RQ.length+1≤100000000:=by rw[←hE,List.length_append];omega
    rw[hE] at HF2 HPJ
    clear hE hlm hsp
    have hb2l:=HF2.out.lt
    have g1:¬9223372036854775807<ky.size+2:=by omega
    obtain ⟨KY,hKY⟩:∃KY:ByteArray,ky++⟨#[58,32]⟩=KY:=⟨_,rfl⟩
    have hkz:E.length+KY.size≤1000000000:=by
     have:KY.size=ky.size+2:=by rw[←hKY,ByteArray.size_append];rfl
     omega
    have HEQ:Hid (E++KY.data.toList=E++(ky.data.toList++ [58,32])):=by rw[Hid,←hKY];simp
    have HT:=Xa (Je Zr HF2.out KY hkz (by omega))
    go_wp2_with fail
    try rw[hKY]
    refine HT.out.mono ?_
    rintro e w3 ⟨rfl,f3,b3,k3⟩
    rw[HEQ.out] at f3
    have HF3:=Xa f3
    have HB3:=Xa (HB2.out.trans b3)
    have HK3:=Xa (HK2.out.trans k3)
    have HX3:=Xa (X8 k3 HX2.out (by omega) (by decide))
    have z3:=HB3.out.size
    have x5:w3.cell? ⟨w.heap.size,5,none⟩=some (.slice (some ⟨bi,oi,none⟩) M cI):=cellAt HX3.out (i:=5) rfl
    have ci:=(Xd HB3.out hbi).trans HCI.out
    have hb3l:=HF3.out.lt
    clear f3 b3 k3
    go_wp2_with fail
    refine (HRQ.out _ _ HF3.out (HP.out.next HB3.out) (by simp only[List.length_append,List.length_cons,List.length_nil,Xm];omega)).mono ?_
    rintro e w4 ⟨rfl,f4,b4,k4⟩
    rw[←HPJ.out] at f4
    have HF4:=Xa f4
    have HB4:=Xa (HB3.out.trans b4)
    have HK4:=Xa (HK3.out.trans k4)
    have HX4:=Xa (X8 k4 HX3.out (by omega) (by decide))
    clear f4 b4 k4
    go_wp2_with fail
    exact ⟨⟨k+1,by omega,by go_num,HF4.out,HB4.out,HK4.out,HX4.out⟩,by simp[intOf];omega⟩
  ·obtain rfl:k=M:=by omega
   go_wp2_with fail
   refine (Xl2 Zr HF.out 125 (by omega) (by omega)).mono ?_
   rintro e w5 ⟨rfl,f5,b5,k5⟩
   have HF5:=Xa f5
   have HB5:=Xa (HB.out.trans b5)
   have HK5:=Xa (HKS.out.trans k5)
   clear f5 b5 k5
   go_wp2_with fail
   go_end0
   exact ⟨rfl,by rw[HD.out];exact HF5.out,HB5.out,HK5.out⟩

def wkF (i:Nat):Int:= [11,12,13,14].getD i 0
theorem Vr:Tryz.prog.underlying 133=some (.array 4 132):=by kernel_rfl
theorem Vs:(Tryz.prog.info? 133).map (·.size)=some wordC.length:=by kernel_rfl
theorem Xsb (W:World):(Instr.index 133 (.agg wordC.toArray) (.int .i64 0)).run Tryz.prog W= .ok (.agg #[.int .i64 11, .string (txt [108,101,110,103,116,104])]) W:=by kernel_rfl
theorem Xsc (W:World):(Instr.index 133 (.agg wordC.toArray) (.int .i64 1)).run Tryz.prog W= .ok (.agg #[.int .i64 12, .string (txt [107,101,121,115])]) W:=by kernel_rfl
theorem Xsd (W:World):(Instr.index 133 (.agg wordC.toArray) (.int .i64 2)).run Tryz.prog W= .ok (.agg #[.int .i64 13, .string (txt [110,111,116])]) W:=by kernel_rfl
theorem Xse (W:World):(Instr.index 133 (.agg wordC.toArray) (.int .i64 3)).run Tryz.prog W= .ok (.agg #[.int .i64 14, .string (txt [101,109,112,116,121])]) W:=by kernel_rfl
theorem J5 {J:Array Value} (hJ:wordC.toArray=J) {m:Nat} (hm:m<4):∃kk sg,(∀W,(Instr.index 133 (.agg J) (.int .i64 (m:Int))).run Tryz.prog W= .ok (.agg #[.int .i64 kk, .string sg]) W)∧kk=wkF m:=by
 rw[←hJ]
 rcases (show m=0∨m=1∨m=2∨m=3 by omega) with rfl|rfl|rfl|rfl
 ·exact ⟨_,_,Xsb,rfl⟩
 ·exact ⟨_,_,Xsc,rfl⟩
 ·exact ⟨_,_,Xsd,rfl⟩
 ·exact ⟨_,_,Xse,rfl⟩
theorem Ul {m:Nat} (hm:m<4):11≤wkF m∧wkF m≤14:=by
 rcases (show m=0∨m=1∨m=2∨m=3 by omega) with rfl|rfl|rfl|rfl<;>decide
set_option maxRecDepth 100000 in
theorem X0b {B b:Nat} {F:Value} {fs:List FN} {nm:ByteArray} {pl:Int} {aC aK aI:Option Addr} {MC cC MK cK M cI:Nat} (l:List UInt8) (w:World) (hg:GF B b F l w) (hp:FwP B F fs w) (hlen:(l++ [46,91,93]).length≤100000000):
  Calls Tryz.prog 58 #[.pointer (some ⟨b,0,none⟩), .agg #[.int .i64 4, .string nm, .int .i64 pl, .slice aC MC cC, .slice aK MK cK, .slice aI M cI]] w fun e w'=>e= .returned (.tuple #[])∧GF B b F (l++ [46,91,93]) w'∧Below B w w'∧Beside b w w':=by
 have z0:=hp.hB
 have hbl:=hg.lt
 obtain ⟨W1,hW1⟩:∃W1,w.alloc (.cells #[.int .i64 4, .string nm, .int .i64 pl, .slice aC MC cC, .slice aK MK cK, .slice aI M cI] 51)=W1:=⟨_,rfl⟩
 have HW1:=Xa hW1
 have HX:Hid (W1.heap[w.heap.size]? =some (.cells #[.int .i64 4, .string nm, .int .i64 pl, .slice aC MC cC, .slice aK MK cK, .slice aI M cI] 51 (0,0))):=by rw[Hid,←hW1];exact heap_alloc_new w _
 have HG:Hid (GF B b F l W1):=by rw[Hid,←hW1];exact hg.alloc _
 have HBX:Hid (Below B w W1):=by rw[Hid,←hW1];exact (Below.refl _ _).alloc z0 _
 have HKX:Hid (Beside b w W1):=by rw[Hid,←hW1];exact Beside.alloc _ _ _
 have HP:=Xa hp
 have z1:B≤W1.heap.size:=Nat.le_trans z0 HBX.out.size
 have hl0:=hlen
 simp only[List.length_append,List.length_cons,List.length_nil,Xm] at hl0
 have HLEN:=Xa hlen
 clear hg hp hW1 hlen
 go_enter Tryz.func58,Tryz.ntmps58
 go_wp2_with fail
 rw[HW1.out]
 refine (Je Zr HG.out ⟨#[46,91,93]⟩ (by show l.length+3≤_;omega) z1).mono ?_
 rintro e w1 ⟨rfl,f1,b1,k1⟩
 have HF1:=Xa f1
 have HB1:=Xa (HBX.out.trans b1)
 have HK1:=Xa (HKX.out.trans k1)
 have HX1:=Xa (X8 k1 HX.out (by omega) (by decide))
 clear f1 b1 k1
 go_upto_region 21 with fail
 refine wp_region_lit ?_
 refine wpList_load_mid rfl 133 (.global 1) rfl 1 0 rfl wordC _ (HP.out.wd _ HB1.out) Vr rfl Vs ?_
 obtain ⟨J,hJ⟩:∃J,wordC.toArray=J:=⟨_,rfl⟩
 rw[hJ]
 have HJ:=Xa hJ
 clear hJ
 go_wp2_with fail
 go_loopw [5,84] (fun _ i wr=>∃m:Nat,m≤4∧i= .int .i64 m∧Below w1.heap.size w1 wr) (fun _ i _=>4-(intOf i).toNat)
 case atStart=>exact ⟨0,by omega,rfl,Below.refl _ _⟩
 case round=>
  obtain ⟨m,hm,rfl,hbr⟩:=hrel
  have HBR:=Xa hbr
  have zr:=hbr.size
  have x0:wr.cell? ⟨w.heap.size,0,none⟩=some (.int .i64 4):=(Xd hbr (X6 HX1.out)).trans (cellAt HX1.out (i:=0) rfl)
  have hx:=X6 HX1.out
  clear hbr
  rcases (show m=4∨m<4 by omega) with rfl|hlt
  ·go_wp2_with fail
   go_end0
   exact ⟨rfl,HF1.out.keep HBR.out,HB1.out.trans (HBR.out.mono (by have:=HF1.out.lt;have:=HB1.out.size;omega)),HK1.out.trans (Beside.below HBR.out)⟩
  ·obtain ⟨kk,sg,hix,hkk⟩:=J5 HJ.out hlt
   have hin:=Ul hlt
   rw[←hkk] at hin
   have hk2:(kk==4)=false:=by simp;omega
   have hk3:¬kk=4:=by omega
   have hlt':(m:Int)<4:=by omega
   have hne:¬w.heap.size=wr.heap.size:=by omega
   have hle:w.heap.size<wr.heap.size:=by omega
   have HB9:=Xa (HBR.out.alloc zr (.cells #[.int .i64 kk, .string sg] 132))
   clear hkk hin
   go_wp2_with fail
   first
    |exact ⟨⟨m+1,by omega,by go_num,HB9.out⟩,by simp[intOf];omega⟩
    | (go_roundw
       case rel=>exact ⟨m+1,by omega,by go_num,HB9.out⟩
       case measure=>simp[intOf];omega)
set_option maxRecDepth 100000 in
theorem Xx5 {B b:Nat} {F:Value} {fs:List FN} {nm:ByteArray} {pl:Int} {aC aK aI:Option Addr} {MC cC MK cK M cI:Nat} {kids:List Int} {q0:Nat} {R0:List UInt8} (hq0:Xk kids 0=q0) (hr0:FwR B b F fs q0 1 R0) (hM:M=1) (l:List UInt8) (w:World) (hk:V9 B w aI M kids) (hg:GF B b F l w) (hp:FwP B F fs w) (hlen:(l++([115,101,108,101,99,116,40]++R0++ [41])).length≤100000000):
  Calls Tryz.prog 58 #[.pointer (some ⟨b,0,none⟩), .agg #[.int .i64 10, .string nm, .int .i64 pl, .slice aC MC cC, .slice aK MK cK, .slice aI M cI]] w fun e w'=>e= .returned (.tuple #[])∧GF B b F (l++([115,101,108,101,99,116,40]++R0++ [41])) w'∧Below B w w'∧Beside b w w':=by
 have z0:=hp.hB
 have hbl:=hg.lt
 obtain ⟨W1,hW1⟩:∃W1,w.alloc (.cells #[.int .i64 10, .string nm, .int .i64 pl, .slice aC MC cC, .slice aK MK cK, .slice aI M cI] 51)=W1:=⟨_,rfl⟩
 have HW1:=Xa hW1
 have HX:Hid (W1.heap[w.heap.size]? =some (.cells #[.int .i64 10, .string nm, .int .i64 pl, .slice aC MC cC, .slice aK MK cK, .slice aI M cI] 51 (0,0))):=by rw[Hid,←hW1];exact heap_alloc_new w _
 have HG:Hid (GF B b F l W1):=by rw[Hid,←hW1];exact hg.alloc _
 have HBX:Hid (Below B w W1):=by rw[Hid,←hW1];exact (Below.refl _ _).alloc z0 _
 have HKX:Hid (Beside b w W1):=by rw[Hid,←hW1];exact Beside.alloc _ _ _
 have HP:=Xa hp
 have z1:B≤W1.heap.size:=Nat.le_trans z0 HBX.out.size
 have hl0:=hlen
 simp only[List.length_append,List.length_cons,List.length_nil,Xm] at hl0
 have HLEN:=Xa hlen
 obtain ⟨_,hk⟩:=hk
 subst hM
 obtain ⟨bi,oi,rfl,hbi,hc⟩:=hk (by omega)
 have c0:=hc 0 (by omega)
 rw[hq0,Nat.add_zero] at c0
 have HC0:=Xa c0
 have HR0:=Xa hr0
 have hbz:bi<w.heap.size:=by omega
 have hbn:¬bi=w.heap.size:=by omega
 clear hk hc hr0 hq0
 clear hg hp hW1 hlen
 go_enter Tryz.func58,Tryz.ntmps58
 go_wp2_with fail
 rw[HW1.out]
 have HE:Hid (l++([115,101,108,101,99,116,40]++R0++ [41])=l++(⟨#[115,101,108,101,99,116,40]⟩:ByteArray).data.toList++R0++(⟨#[41]⟩:ByteArray).data.toList):=by rw[Hid];simp
 refine (Ju HR0.out ⟨#[115,101,108,101,99,116,40]⟩ ⟨#[41]⟩ l W1 HG.out (HP.out.next HBX.out) (by rw[←HE.out];exact HLEN.out)).mono ?_
 rintro e w1 ⟨rfl,f1,b1,k1⟩
 rw[←HE.out] at f1
 have HF1:=Xa f1
 have HB1:=Xa (HBX.out.trans b1)
 have HK1:=Xa (HKX.out.trans k1)
 have HX1:=Xa (X8 k1 HX.out (by omega) (by decide))
 clear f1 b1 k1
 go_upto_region 21 with fail
 refine wp_region_lit ?_
 refine wpList_load_mid rfl 133 (.global 1) rfl 1 0 rfl wordC _ (HP.out.wd _ HB1.out) Vr rfl Vs ?_
 obtain ⟨J,hJ⟩:∃J,wordC.toArray=J:=⟨_,rfl⟩
 rw[hJ]
 have HJ:=Xa hJ
 clear hJ
 go_wp2_with fail
 go_loopw [5,84] (fun _ i wr=>∃m:Nat,m≤4∧i= .int .i64 m∧Below w1.heap.size w1 wr) (fun _ i _=>4-(intOf i).toNat)
 case atStart=>exact ⟨0,by omega,rfl,Below.refl _ _⟩
 case round=>
  obtain ⟨m,hm,rfl,hbr⟩:=hrel
  have HBR:=Xa hbr
  have zr:=hbr.size
  have x0:wr.cell? ⟨w.heap.size,0,none⟩=some (.int .i64 10):=(Xd hbr (X6 HX1.out)).trans (cellAt HX1.out (i:=0) rfl)
  have hx:=X6 HX1.out
  clear hbr
  rcases (show m=4∨m<4 by omega) with rfl|hlt
  ·go_wp2_with fail
   go_end0
   exact ⟨rfl,HF1.out.keep HBR.out,HB1.out.trans (HBR.out.mono (by have:=HF1.out.lt;have:=HB1.out.size;omega)),HK1.out.trans (Beside.below HBR.out)⟩
  ·obtain ⟨kk,sg,hix,hkk⟩:=J5 HJ.out hlt
   have hin:=Ul hlt
   rw[←hkk] at hin
   have hk2:(kk==10)=false:=by simp;omega
   have hk3:¬kk=10:=by omega
   have hlt':(m:Int)<4:=by omega
   have hne:¬w.heap.size=wr.heap.size:=by omega
   have hle:w.heap.size<wr.heap.size:=by omega
   have HB9:=Xa (HBR.out.alloc zr (.cells #[.int .i64 kk, .string sg] 132))
   clear hkk hin
   go_wp2_with fail
   first
    |exact ⟨⟨m+1,by omega,by go_num,HB9.out⟩,by simp[intOf];omega⟩
    | (go_roundw
       case rel=>exact ⟨m+1,by omega,by go_num,HB9.out⟩
       case measure=>simp[intOf];omega)
set_option maxRecDepth 100000 in
theorem Xx6 {B b:Nat} {F:Value} {fs:List FN} {nm:ByteArray} {pl:Int} {aC aK aI:Option Addr} {MC cC MK cK M cI:Nat} {kids:List Int} {q0:Nat} {R0:List UInt8} (hq0:Xk kids 0=q0) (hr0:FwR B b F fs q0 1 R0) {q1:Nat} {R1:List UInt8} (hq1:Xk kids 1=q1) (hr1:FwR B b F fs q1 1 R1) {q2:Nat} {R2:List UInt8} (hq2:Xk kids 2=q2) (hr2:FwR B b F fs q2 1 R2) (hM:M=3) (l:List UInt8) (w:World) (hk:V9 B w aI M kids) (hg:GF B b F l w) (hp:FwP B F fs w) (hlen:(l++([105,102,32]++R0++ [32,116,104,101,110,32]++R1++ [32,101,108,115,101,32]++R2++ [32,101,110,100])).length≤100000000):
  Calls Tryz.prog 58 #[.pointer (some ⟨b,0,none⟩), .agg #[.int .i64 22, .string nm, .int .i64 pl, .slice aC MC cC, .slice aK MK cK, .slice aI M cI]] w fun e w'=>e= .returned (.tuple #[])∧GF B b F (l++([105,102,32]++R0++ [32,116,104,101,110,32]++R1++ [32,101,108,115,101,32]++R2++ [32,101,110,100])) w'∧Below B w w'∧Beside b w w':=by
 have z0:=hp.hB
 have hbl:=hg.lt
 obtain ⟨W1,hW1⟩:∃W1,w.alloc (.cells #[.int .i64 22, .string nm, .int .i64 pl, .slice aC MC cC, .slice aK MK cK, .slice aI M cI] 51)=W1:=⟨_,rfl⟩
 have HW1:=Xa hW1
 have HX:Hid (W1.heap[w.heap.size]? =some (.cells #[.int .i64 22, .string nm, .int .i64 pl, .slice aC MC cC, .slice aK MK cK, .slice aI M cI] 51 (0,0))):=by rw[Hid,←hW1];exact heap_alloc_new w _
 have HG:Hid (GF B b F l W1):=by rw[Hid,←hW1];exact hg.alloc _
 have HBX:Hid (Below B w W1):=by rw[Hid,←hW1];exact (Below.refl _ _).alloc z0 _
 have HKX:Hid (Beside b w W1):=by rw[Hid,←hW1];exact Beside.alloc _ _ _
 have HP:=Xa hp
 have z1:B≤W1.heap.size:=Nat.le_trans z0 HBX.out.size
 have hl0:=hlen
 simp only[List.length_append,List.length_cons,List.length_nil,Xm] at hl0
 have HLEN:=Xa hlen
 obtain ⟨_,hk⟩:=hk
 subst hM
 obtain ⟨bi,oi,rfl,hbi,hc⟩:=hk (by omega)
 have c0:=hc 0 (by omega)
 rw[hq0,Nat.add_zero] at c0
 have HC0:=Xa c0
 have HR0:=Xa hr0
 have c1:=hc 1 (by omega)
 rw[hq1] at c1
 have HC1:=Xa c1
 have HR1:=Xa hr1
 have c2:=hc 2 (by omega)
 rw[hq2] at c2
 have HC2:=Xa c2
 have HR2:=Xa hr2
 have hbz:bi<w.heap.size:=by omega
 have hbn:¬bi=w.heap.size:=by omega
 clear hk hc hr0 hq0 hr1 hq1 c1 hr2 hq2 c2
 clear hg hp hW1 hlen
 go_enter Tryz.func58,Tryz.ntmps58
 go_wp2_with fail
 rw[HW1.out]
 have HL3:=HLEN.out
 simp only[List.length_append,List.length_cons,List.length_nil,Xm] at HL3
 refine (Ju HR0.out ⟨#[105,102,32]⟩ ⟨#[]⟩ l W1 HG.out (HP.out.next HBX.out) (by simp only[List.length_append,List.length_cons,List.length_nil];omega)).mono ?_
 rintro e w3 ⟨rfl,f3,b3,k3⟩
 have HF3:=Xa f3
 have HB3:=Xa (HBX.out.trans b3)
 have HK3:=Xa (HKX.out.trans k3)
 have HX3:=Xa (X8 k3 HX.out (by omega) (by decide))
 have x5:w3.cell? ⟨w.heap.size,5,none⟩=some (.slice (some ⟨bi,oi,none⟩) 3 cI):=cellAt HX3.out (i:=5) rfl
 have d1:=(Xd HB3.out hbi).trans HC1.out
 have hb3:=HF3.out.lt
 have hz3:=X6 HX3.out
 clear f3 b3 k3 c0
 go_wp2_with fail
 refine (Ju HR1.out ⟨#[32,116,104,101,110,32]⟩ ⟨#[]⟩ _ w3 HF3.out (HP.out.next HB3.out) (by simp only[List.length_append,List.length_cons,List.length_nil];omega)).mono ?_
 rintro e w4 ⟨rfl,f4,b4,k4⟩
 have HF4:=Xa f4
 have HB4:=Xa (HB3.out.trans b4)
 have HK4:=Xa (HK3.out.trans k4)
 have HX4:=Xa (X8 k4 HX3.out (by omega) (by decide))
 have y5:w4.cell? ⟨w.heap.size,5,none⟩=some (.slice (some ⟨bi,oi,none⟩) 3 cI):=cellAt HX4.out (i:=5) rfl
 have d2:=(Xd HB4.out hbi).trans HC2.out
 have hb4:=HF4.out.lt
 have hz4:=X6 HX4.out
 clear f4 b4 k4 x5 d1
 go_wp2_with fail
 refine (Ju HR2.out ⟨#[32,101,108,115,101,32]⟩ ⟨#[32,101,110,100]⟩ _ w4 HF4.out (HP.out.next HB4.out) (by simp only[List.length_append,List.length_cons,List.length_nil];omega)).mono ?_
 rintro e w1 ⟨rfl,f1,b1,k1⟩
 have HF1:Hid (GF B b F (l++([105,102,32]++R0++ [32,116,104,101,110,32]++R1++ [32,101,108,115,101,32]++R2++ [32,101,110,100])) w1):=Eq.mp (congrArg (fun z=>GF B b F z w1) (by simp)) f1
 have HB1:=Xa (HB4.out.trans b1)
 have HK1:=Xa (HK4.out.trans k1)
 have HX1:=Xa (X8 k1 HX4.out (by omega) (by decide))
 clear f1 b1 k1 y5 d2
 go_upto_region 21 with fail
 refine wp_region_lit ?_
 refine wpList_load_mid rfl 133 (.global 1) rfl 1 0 rfl wordC _ (HP.out.wd _ HB1.out) Vr rfl Vs ?_
 obtain ⟨J,hJ⟩:∃J,wordC.toArray=J:=⟨_,rfl⟩
 rw[hJ]
 have HJ:=Xa hJ
 clear hJ
 go_wp2_with fail
 go_loopw [5,84] (fun _ i wr=>∃m:Nat,m≤4∧i= .int .i64 m∧Below w1.heap.size w1 wr) (fun _ i _=>4-(intOf i).toNat)
 case atStart=>exact ⟨0,by omega,rfl,Below.refl _ _⟩
 case round=>
  obtain ⟨m,hm,rfl,hbr⟩:=hrel
  have HBR:=Xa hbr
  have zr:=hbr.size
  have x0:wr.cell? ⟨w.heap.size,0,none⟩=some (.int .i64 22):=(Xd hbr (X6 HX1.out)).trans (cellAt HX1.out (i:=0) rfl)
  have hx:=X6 HX1.out
  clear hbr
  rcases (show m=4∨m<4 by omega) with rfl|hlt
  ·go_wp2_with fail
   go_end0
   exact ⟨rfl,HF1.out.keep HBR.out,HB1.out.trans (HBR.out.mono (by have:=HF1.out.lt;have:=HB1.out.size;omega)),HK1.out.trans (Beside.below HBR.out)⟩
  ·obtain ⟨kk,sg,hix,hkk⟩:=J5 HJ.out hlt
   have hin:=Ul hlt
   rw[←hkk] at hin
   have hk2:(kk==22)=false:=by simp;omega
   have hk3:¬kk=22:=by omega
   have hlt':(m:Int)<4:=by omega
   have hne:¬w.heap.size=wr.heap.size:=by omega
   have hle:w.heap.size<wr.heap.size:=by omega
   have HB9:=Xa (HBR.out.alloc zr (.cells #[.int .i64 kk, .string sg] 132))
   clear hkk hin
   go_wp2_with fail
   first
    |exact ⟨⟨m+1,by omega,by go_num,HB9.out⟩,by simp[intOf];omega⟩
    | (go_roundw
       case rel=>exact ⟨m+1,by omega,by go_num,HB9.out⟩
       case measure=>simp[intOf];omega)
set_option maxRecDepth 100000 in
theorem X0c {B b:Nat} {F:Value} {fs:List FN} {nm:ByteArray} {pl:Int} {aC aK aI:Option Addr} {MC cC MK cK M cI:Nat} (hnm:nm.size≤60) (l:List UInt8) (w:World) (hg:GF B b F l w) (hp:FwP B F fs w) (hlen:(l++([46]++nm.data.toList)).length≤100000000):
  Calls Tryz.prog 58 #[.pointer (some ⟨b,0,none⟩), .agg #[.int .i64 1, .string nm, .int .i64 pl, .slice aC MC cC, .slice aK MK cK, .slice aI M cI]] w fun e w'=>e= .returned (.tuple #[])∧GF B b F (l++([46]++nm.data.toList)) w'∧Below B w w'∧Beside b w w':=by
 have z0:=hp.hB
 have hbl:=hg.lt
 obtain ⟨W1,hW1⟩:∃W1,w.alloc (.cells #[.int .i64 1, .string nm, .int .i64 pl, .slice aC MC cC, .slice aK MK cK, .slice aI M cI] 51)=W1:=⟨_,rfl⟩
 have HW1:=Xa hW1
 have HX:Hid (W1.heap[w.heap.size]? =some (.cells #[.int .i64 1, .string nm, .int .i64 pl, .slice aC MC cC, .slice aK MK cK, .slice aI M cI] 51 (0,0))):=by rw[Hid,←hW1];exact heap_alloc_new w _
 have HG:Hid (GF B b F l W1):=by rw[Hid,←hW1];exact hg.alloc _
 have HBX:Hid (Below B w W1):=by rw[Hid,←hW1];exact (Below.refl _ _).alloc z0 _
 have HKX:Hid (Beside b w W1):=by rw[Hid,←hW1];exact Beside.alloc _ _ _
 have HP:=Xa hp
 have z1:B≤W1.heap.size:=Nat.le_trans z0 HBX.out.size
 have hl0:=hlen
 simp only[List.length_append,List.length_cons,List.length_nil,Xm] at hl0
 have HLEN:=Xa hlen
 obtain ⟨KY,hKY⟩:∃KY:ByteArray,(⟨#[46]⟩:ByteArray)++nm=KY:=⟨_,rfl⟩
 have HEQ:Hid (l++KY.data.toList=l++([46]++nm.data.toList)):=by rw[Hid,←hKY];simp
 have hkz:l.length+KY.size≤1000000000:=by
  have:KY.size=1+nm.size:=by rw[←hKY,ByteArray.size_append];rfl
  omega
 have g1:¬9223372036854775807<1+nm.size:=by omega
 have x1:W1.cell? ⟨w.heap.size,1,none⟩=some (.string nm):=cellAt HX.out (i:=1) rfl
 have HT:=Xa (Je Zr HG.out.drew KY hkz (by simp;omega))
 clear hg hp hW1 hlen
 go_enter Tryz.func58,Tryz.ntmps58
 go_wp2_with fail
 rw[HW1.out]
 go_region_held3 (fun w'=>w'.cell? ⟨w.heap.size,1,none⟩=some (.string nm))
  (first|exact cellAt (X8 k1 HX.out (by omega) (by decide)) (i:=1) rfl|exact x1)
  (first
   |(go_at_call 92;refine HT.out.mono ?_;rintro e w1 ⟨rfl,f1,b1,k1⟩))
 have HF1:Hid (GF B b F (l++([46]++nm.data.toList)) w1):=by rw[Hid,←HEQ.out];exact f1
 have HB1:=Xa (HBX.out.trans ((Below.drew (Below.refl _ _)).trans b1))
 have HK1:=Xa (HKX.out.trans (show Beside b W1 w1 from k1))
 have HX1:=Xa (X8 k1 HX.out (by omega) (by decide))
 clear f1 b1 k1 x1
 go_upto_region 21 with fail
 refine wp_region_lit ?_
 refine wpList_load_mid rfl 133 (.global 1) rfl 1 0 rfl wordC _ (HP.out.wd _ HB1.out) Vr rfl Vs ?_
 obtain ⟨J,hJ⟩:∃J,wordC.toArray=J:=⟨_,rfl⟩
 rw[hJ]
 have HJ:=Xa hJ
 clear hJ
 go_wp2_with fail
 go_loopw [5,84] (fun _ i wr=>∃m:Nat,m≤4∧i= .int .i64 m∧Below w1.heap.size w1 wr) (fun _ i _=>4-(intOf i).toNat)
 case atStart=>exact ⟨0,by omega,rfl,Below.refl _ _⟩
 case round=>
  obtain ⟨m,hm,rfl,hbr⟩:=hrel
  have HBR:=Xa hbr
  have zr:=hbr.size
  have x0:wr.cell? ⟨w.heap.size,0,none⟩=some (.int .i64 1):=(Xd hbr (X6 HX1.out)).trans (cellAt HX1.out (i:=0) rfl)
  have hx:=X6 HX1.out
  clear hbr
  rcases (show m=4∨m<4 by omega) with rfl|hlt
  ·go_wp2_with fail
   go_end0
   exact ⟨rfl,HF1.out.keep HBR.out,HB1.out.trans (HBR.out.mono (by have:=HF1.out.lt;have:=HB1.out.size;omega)),HK1.out.trans (Beside.below HBR.out)⟩
  ·obtain ⟨kk,sg,hix,hkk⟩:=J5 HJ.out hlt
   have hin:=Ul hlt
   rw[←hkk] at hin
   have hk2:(kk==1)=false:=by simp;omega
   have hk3:¬kk=1:=by omega
   have hlt':(m:Int)<4:=by omega
   have hne:¬w.heap.size=wr.heap.size:=by omega
   have hle:w.heap.size<wr.heap.size:=by omega
   have HB9:=Xa (HBR.out.alloc zr (.cells #[.int .i64 kk, .string sg] 132))
   clear hkk hin
   go_wp2_with fail
   first
    |exact ⟨⟨m+1,by omega,by go_num,HB9.out⟩,by simp[intOf];omega⟩
    | (go_roundw
       case rel=>exact ⟨m+1,by omega,by go_num,HB9.out⟩
       case measure=>simp[intOf];omega)
set_option maxRecDepth 100000 in
theorem X0d {B b:Nat} {F:Value} {fs:List FN} {nm:ByteArray} {pl:Int} {aC aK aI:Option Addr} {MC cC MK cK M cI:Nat} (hnm:nm.size≤60) (l:List UInt8) (w:World) (hg:GF B b F l w) (hp:FwP B F fs w) (hlen:(l++([46]++nm.data.toList)).length≤100000000):
  Calls Tryz.prog 58 #[.pointer (some ⟨b,0,none⟩), .agg #[.int .i64 2, .string nm, .int .i64 pl, .slice aC MC cC, .slice aK MK cK, .slice aI M cI]] w fun e w'=>e= .returned (.tuple #[])∧GF B b F (l++([46]++nm.data.toList)) w'∧Below B w w'∧Beside b w w':=by
 have z0:=hp.hB
 have hbl:=hg.lt
 obtain ⟨W1,hW1⟩:∃W1,w.alloc (.cells #[.int .i64 2, .string nm, .int .i64 pl, .slice aC MC cC, .slice aK MK cK, .slice aI M cI] 51)=W1:=⟨_,rfl⟩
 have HW1:=Xa hW1
 have HX:Hid (W1.heap[w.heap.size]? =some (.cells #[.int .i64 2, .string nm, .int .i64 pl, .slice aC MC cC, .slice aK MK cK, .slice aI M cI] 51 (0,0))):=by rw[Hid,←hW1];exact heap_alloc_new w _
 have HG:Hid (GF B b F l W1):=by rw[Hid,←hW1];exact hg.alloc _
 have HBX:Hid (Below B w W1):=by rw[Hid,←hW1];exact (Below.refl _ _).alloc z0 _
 have HKX:Hid (Beside b w W1):=by rw[Hid,←hW1];exact Beside.alloc _ _ _
 have HP:=Xa hp
 have z1:B≤W1.heap.size:=Nat.le_trans z0 HBX.out.size
 have hl0:=hlen
 simp only[List.length_append,List.length_cons,List.length_nil,Xm] at hl0
 have HLEN:=Xa hlen
 obtain ⟨KY,hKY⟩:∃KY:ByteArray,(⟨#[46]⟩:ByteArray)++nm=KY:=⟨_,rfl⟩
 have HEQ:Hid (l++KY.data.toList=l++([46]++nm.data.toList)):=by rw[Hid,←hKY];simp
 have hkz:l.length+KY.size≤1000000000:=by
  have:KY.size=1+nm.size:=by rw[←hKY,ByteArray.size_append];rfl
  omega
 have g1:¬9223372036854775807<1+nm.size:=by omega
 have x1:W1.cell? ⟨w.heap.size,1,none⟩=some (.string nm):=cellAt HX.out (i:=1) rfl
 have HT:=Xa (Je Zr HG.out.drew KY hkz (by simp;omega))
 clear hg hp hW1 hlen
 go_enter Tryz.func58,Tryz.ntmps58
 go_wp2_with fail
 rw[HW1.out]
 go_region_held3 (fun w'=>w'.cell? ⟨w.heap.size,1,none⟩=some (.string nm))
  (first|exact cellAt (X8 k1 HX.out (by omega) (by decide)) (i:=1) rfl|exact x1)
  (first
   |(go_at_call 92;refine HT.out.mono ?_;rintro e w1 ⟨rfl,f1,b1,k1⟩))
 have HF1:Hid (GF B b F (l++([46]++nm.data.toList)) w1):=by rw[Hid,←HEQ.out];exact f1
 have HB1:=Xa (HBX.out.trans ((Below.drew (Below.refl _ _)).trans b1))
 have HK1:=Xa (HKX.out.trans (show Beside b W1 w1 from k1))
 have HX1:=Xa (X8 k1 HX.out (by omega) (by decide))
 clear f1 b1 k1 x1
 go_upto_region 21 with fail
 refine wp_region_lit ?_
 refine wpList_load_mid rfl 133 (.global 1) rfl 1 0 rfl wordC _ (HP.out.wd _ HB1.out) Vr rfl Vs ?_
 obtain ⟨J,hJ⟩:∃J,wordC.toArray=J:=⟨_,rfl⟩
 rw[hJ]
 have HJ:=Xa hJ
 clear hJ
 go_wp2_with fail
 go_loopw [5,84] (fun _ i wr=>∃m:Nat,m≤4∧i= .int .i64 m∧Below w1.heap.size w1 wr) (fun _ i _=>4-(intOf i).toNat)
 case atStart=>exact ⟨0,by omega,rfl,Below.refl _ _⟩
 case round=>
  obtain ⟨m,hm,rfl,hbr⟩:=hrel
  have HBR:=Xa hbr
  have zr:=hbr.size
  have x0:wr.cell? ⟨w.heap.size,0,none⟩=some (.int .i64 2):=(Xd hbr (X6 HX1.out)).trans (cellAt HX1.out (i:=0) rfl)
  have hx:=X6 HX1.out
  clear hbr
  rcases (show m=4∨m<4 by omega) with rfl|hlt
  ·go_wp2_with fail
   go_end0
   exact ⟨rfl,HF1.out.keep HBR.out,HB1.out.trans (HBR.out.mono (by have:=HF1.out.lt;have:=HB1.out.size;omega)),HK1.out.trans (Beside.below HBR.out)⟩
  ·obtain ⟨kk,sg,hix,hkk⟩:=J5 HJ.out hlt
   have hin:=Ul hlt
   rw[←hkk] at hin
   have hk2:(kk==2)=false:=by simp;omega
   have hk3:¬kk=2:=by omega
   have hlt':(m:Int)<4:=by omega
   have hne:¬w.heap.size=wr.heap.size:=by omega
   have hle:w.heap.size<wr.heap.size:=by omega
   have HB9:=Xa (HBR.out.alloc zr (.cells #[.int .i64 kk, .string sg] 132))
   clear hkk hin
   go_wp2_with fail
   first
    |exact ⟨⟨m+1,by omega,by go_num,HB9.out⟩,by simp[intOf];omega⟩
    | (go_roundw
       case rel=>exact ⟨m+1,by omega,by go_num,HB9.out⟩
       case measure=>simp[intOf];omega)

theorem Xfq {m:Nat} (hm:m<4):wkF m=11+(m:Int):=by
 rcases (show m=0∨m=1∨m=2∨m=3 by omega) with rfl|rfl|rfl|rfl<;>rfl
set_option maxRecDepth 100000 in
theorem Xzs {B b : Nat} {F : Value} {fs : List FN} {nm : ByteArray} {pl : Int} {aC aK aI : Option Addr} {MC cC MK cK M cI : Nat} (l : List UInt8) (w : World) (hg : GF B b F l w) (hp : FwP B F fs w) (hlen : (l ++ [108, 101, 110, 103, 116, 104]).length ≤ 100000000) :
  Calls Tryz.prog 58 #[.pointer (some ⟨b,0,none⟩), .agg #[.int .i64 11, .string nm, .int .i64 pl, .slice aC MC cC, .slice aK MK cK, .slice aI M cI]] w fun e w'=>e= .returned (.tuple #[])∧GF B b F (l++ [108,101,110,103,116,104]) w'∧Below B w w'∧Beside b w w':=by
 have z0:=hp.hB
 have hbl:=hg.lt
 obtain ⟨W1,hW1⟩:∃W1,w.alloc (.cells #[.int .i64 11, .string nm, .int .i64 pl, .slice aC MC cC, .slice aK MK cK, .slice aI M cI] 51)=W1:=⟨_,rfl⟩
 have HW1:=Xa hW1
 have HX1:Hid (W1.heap[w.heap.size]? =some (.cells #[.int .i64 11, .string nm, .int .i64 pl, .slice aC MC cC, .slice aK MK cK, .slice aI M cI] 51 (0,0))):=by rw[Hid,←hW1];exact heap_alloc_new w _
 have HF1:Hid (GF B b F l W1):=by rw[Hid,←hW1];exact hg.alloc _
 have HB1:Hid (Below B w W1):=by rw[Hid,←hW1];exact (Below.refl _ _).alloc z0 _
 have HK1:Hid (Beside b w W1):=by rw[Hid,←hW1];exact Beside.alloc _ _ _
 have HP:=Xa hp
 have hl0:=hlen
 simp only[List.length_append,List.length_cons,List.length_nil,Xm] at hl0
 obtain ⟨D,hD⟩:∃D:Nat→List UInt8,∀m,D m=if 0<m then l++ [108,101,110,103,116,104] else l:=⟨_,fun _=>rfl⟩
 have HD:=Xa hD
 clear hg hp hW1 hlen hD
 go_enter Tryz.func58,Tryz.ntmps58
 go_upto_region 21 with fail
 try rw[HW1.out]
 refine wp_region_lit ?_
 refine wpList_load_mid rfl 133 (.global 1) rfl 1 0 rfl wordC _ (HP.out.wd _ HB1.out) Vr rfl Vs ?_
 obtain ⟨J,hJ⟩:∃J,wordC.toArray=J:=⟨_,rfl⟩
 rw[hJ]
 have HJ:=Xa hJ
 clear hJ
 go_wp2_with fail
 go_loopw [5,84] (fun _ i wr=>∃m:Nat,m≤4∧i= .int .i64 m∧GF B b F (D m) wr∧Below B w wr∧Beside b w wr∧wr.heap[w.heap.size]? =some (.cells #[.int .i64 11, .string nm, .int .i64 pl, .slice aC MC cC, .slice aK MK cK, .slice aI M cI] 51 (0,0))) (fun _ i _=>4-(intOf i).toNat)
 case atStart=>exact ⟨0,by omega,rfl,by rw[HD.out,if_neg (by omega)];exact HF1.out,HB1.out,HK1.out,HX1.out⟩
 case round =>
  obtain ⟨m,hm,rfl,hf,hb,hks,hx⟩:=hrel
  have HF:=Xa hf
  have HB:=Xa hb
  have HKS:=Xa hks
  have HXR:=Xa hx
  have zr:=hb.size
  have hblr:=hf.lt
  have x0:wr.cell? ⟨w.heap.size,0,none⟩=some (.int .i64 11):=cellAt hx (i:=0) rfl
  have hxl:=X6 hx
  clear hf hb hks hx
  rcases (show m=4∨m<4 by omega) with rfl|hlt
  ·go_wp2_with fail
   go_end0
   exact ⟨rfl,by have:=HF.out;rw[HD.out,if_pos (by omega)] at this;exact this,HB.out,HKS.out⟩
  ·have hlt' : (m : Int) < 4 := by omega
   have hne:¬w.heap.size=wr.heap.size:=by omega
   have hle:w.heap.size<wr.heap.size:=by omega
   by_cases hmx:m=0
   ·subst hmx
    have hix:=Xsb
    rw[HJ.out] at hix
    have HF9:Hid (GF B b F l (wr.alloc (.cells #[.int .i64 11, .string (txt [108,101,110,103,116,104])] 132))):=by have:=HF.out;rw[HD.out,if_neg (by omega)] at this;exact this.alloc _
    have HB9:=Xa (HB.out.alloc (by omega) (.cells #[.int .i64 11, .string (txt [108,101,110,103,116,104])] 132))
    have HK9:=Xa (HKS.out.trans (Beside.alloc b wr (.cells #[.int .i64 11, .string (txt [108,101,110,103,116,104])] 132)))
    have HX9:Hid ((wr.alloc (.cells #[.int .i64 11, .string (txt [108,101,110,103,116,104])] 132)).heap[w.heap.size]? =some (.cells #[.int .i64 11, .string nm, .int .i64 pl, .slice aC MC cC, .slice aK MK cK, .slice aI M cI] 51 (0,0))):=(Below.heap_alloc _ _ _ hle).trans HXR.out
    obtain ⟨KY,hKY⟩:∃KY:ByteArray,txt [108,101,110,103,116,104]=KY:=⟨_,rfl⟩
    have HEQ:Hid (l++KY.data.toList=l++ [108,101,110,103,116,104]):=by rw[Hid,←hKY];rfl
    have hkz:KY.size=6:=by rw[←hKY];rfl
    rw[hKY] at hix HF9 HB9 HK9 HX9
    obtain ⟨W9,hW9⟩:∃W9,wr.alloc (.cells #[.int .i64 11, .string KY] 132)=W9:=⟨_,rfl⟩
    rw[hW9] at HF9 HB9 HK9 HX9
    have c1:W9.cell? ⟨wr.heap.size,1,none⟩=some (.string KY):=by rw[←hW9];exact cellAt (heap_alloc_new wr _) (i:=1) rfl
    have HT:=Xa (Je Zr HF9.out.drew KY (by omega) (by have:=HB9.out.size;simp;omega))
    have HW9:=Xa hW9
    have HY9:Hid (W9.heap[wr.heap.size]? =some (.cells #[.int .i64 11, .string KY] 132 (0,0))):=by rw[Hid,←hW9];exact heap_alloc_new wr _
    have z9:=HF9.out.lt
    clear hKY hW9
    go_wp2_with fail
    try rw[HW9.out]
    go_region_held3 (fun w'=>w'.cell? ⟨wr.heap.size,1,none⟩=some (.string KY))
     (first|exact cellAt (X8 k5 HY9.out (by omega) (by decide)) (i:=1) rfl|exact c1)
     (first
      |(go_at_call 92;refine HT.out.mono ?_;rintro e w5 ⟨rfl,f5,b5,k5⟩))
    rw[HEQ.out] at f5
    have HF5:Hid (GF B b F (D (0+1)) w5):=by rw[Hid,HD.out,if_pos (by omega)];exact f5
    have HB5:=Xa (HB9.out.trans ((Below.drew (Below.refl _ _)).trans b5))
    have HK5:=Xa (HK9.out.trans (show Beside b W9 w5 from k5))
    have HX5:=Xa (X8 k5 HX9.out (by omega) (by decide))
    clear f5 b5 k5 c1
    go_wp2_with fail
    first
     |exact ⟨⟨0+1,by omega,by go_num,HF5.out,HB5.out,HK5.out,HX5.out⟩,by simp[intOf]⟩
     | (go_roundw
        case rel=>exact ⟨0+1,by omega,by go_num,HF5.out,HB5.out,HK5.out,HX5.out⟩
        case measure=>simp[intOf])
   ·obtain ⟨kk,sg,hix,hkk⟩:=J5 HJ.out hlt
    rw[Xfq hlt] at hkk
    have hk2:(kk==11)=false:=by simp;omega
    have hk3:¬kk=11:=by omega
    have HF9:Hid (GF B b F (D (m+1)) (wr.alloc (.cells #[.int .i64 kk, .string sg] 132))):=by
     have:=HF.out
     rw[HD.out] at this
     rw[Hid,HD.out]
     by_cases g:0<m
     ·rw[if_pos g] at this;rw[if_pos (by omega)];exact this.alloc _
     ·rw[if_neg g] at this;rw[if_neg (by omega)];exact this.alloc _
    have HB9:=Xa (HB.out.alloc (by omega) (.cells #[.int .i64 kk, .string sg] 132))
    have HK9:=Xa (HKS.out.trans (Beside.alloc b wr (.cells #[.int .i64 kk, .string sg] 132)))
    have HX9:Hid ((wr.alloc (.cells #[.int .i64 kk, .string sg] 132)).heap[w.heap.size]? =some (.cells #[.int .i64 11, .string nm, .int .i64 pl, .slice aC MC cC, .slice aK MK cK, .slice aI M cI] 51 (0,0))):=(Below.heap_alloc _ _ _ hle).trans HXR.out
    clear hkk
    go_wp2_with fail
    first
     |exact ⟨⟨m+1,by omega,by go_num,HF9.out,HB9.out,HK9.out,HX9.out⟩,by simp[intOf];omega⟩
     | (go_roundw
        case rel=>exact ⟨m+1,by omega,by go_num,HF9.out,HB9.out,HK9.out,HX9.out⟩
        case measure=>simp[intOf];omega)
set_option maxRecDepth 100000 in
theorem Xzt {B b : Nat} {F : Value} {fs : List FN} {nm : ByteArray} {pl : Int} {aC aK aI : Option Addr} {MC cC MK cK M cI : Nat} (l : List UInt8) (w : World) (hg : GF B b F l w) (hp : FwP B F fs w) (hlen : (l ++ [107, 101, 121, 115]).length ≤ 100000000) :
  Calls Tryz.prog 58 #[.pointer (some ⟨b,0,none⟩), .agg #[.int .i64 12, .string nm, .int .i64 pl, .slice aC MC cC, .slice aK MK cK, .slice aI M cI]] w fun e w'=>e= .returned (.tuple #[])∧GF B b F (l++ [107,101,121,115]) w'∧Below B w w'∧Beside b w w':=by
 have z0:=hp.hB
 have hbl:=hg.lt
 obtain ⟨W1,hW1⟩:∃W1,w.alloc (.cells #[.int .i64 12, .string nm, .int .i64 pl, .slice aC MC cC, .slice aK MK cK, .slice aI M cI] 51)=W1:=⟨_,rfl⟩
 have HW1:=Xa hW1
 have HX1:Hid (W1.heap[w.heap.size]? =some (.cells #[.int .i64 12, .string nm, .int .i64 pl, .slice aC MC cC, .slice aK MK cK, .slice aI M cI] 51 (0,0))):=by rw[Hid,←hW1];exact heap_alloc_new w _
 have HF1:Hid (GF B b F l W1):=by rw[Hid,←hW1];exact hg.alloc _
 have HB1:Hid (Below B w W1):=by rw[Hid,←hW1];exact (Below.refl _ _).alloc z0 _
 have HK1:Hid (Beside b w W1):=by rw[Hid,←hW1];exact Beside.alloc _ _ _
 have HP:=Xa hp
 have hl0:=hlen
 simp only[List.length_append,List.length_cons,List.length_nil,Xm] at hl0
 obtain ⟨D,hD⟩:∃D:Nat→List UInt8,∀m,D m=if 1<m then l++ [107,101,121,115] else l:=⟨_,fun _=>rfl⟩
 have HD:=Xa hD
 clear hg hp hW1 hlen hD
 go_enter Tryz.func58,Tryz.ntmps58
 go_upto_region 21 with fail
 try rw[HW1.out]
 refine wp_region_lit ?_
 refine wpList_load_mid rfl 133 (.global 1) rfl 1 0 rfl wordC _ (HP.out.wd _ HB1.out) Vr rfl Vs ?_
 obtain ⟨J,hJ⟩:∃J,wordC.toArray=J:=⟨_,rfl⟩
 rw[hJ]
 have HJ:=Xa hJ
 clear hJ
 go_wp2_with fail
 go_loopw [5,84] (fun _ i wr=>∃m:Nat,m≤4∧i= .int .i64 m∧GF B b F (D m) wr∧Below B w wr∧Beside b w wr∧wr.heap[w.heap.size]? =some (.cells #[.int .i64 12, .string nm, .int .i64 pl, .slice aC MC cC, .slice aK MK cK, .slice aI M cI] 51 (0,0))) (fun _ i _=>4-(intOf i).toNat)
 case atStart=>exact ⟨0,by omega,rfl,by rw[HD.out,if_neg (by omega)];exact HF1.out,HB1.out,HK1.out,HX1.out⟩
 case round =>
  obtain ⟨m,hm,rfl,hf,hb,hks,hx⟩:=hrel
  have HF:=Xa hf
  have HB:=Xa hb
  have HKS:=Xa hks
  have HXR:=Xa hx
  have zr:=hb.size
  have hblr:=hf.lt
  have x0:wr.cell? ⟨w.heap.size,0,none⟩=some (.int .i64 12):=cellAt hx (i:=0) rfl
  have hxl:=X6 hx
  clear hf hb hks hx
  rcases (show m=4∨m<4 by omega) with rfl|hlt
  ·go_wp2_with fail
   go_end0
   exact ⟨rfl,by have:=HF.out;rw[HD.out,if_pos (by omega)] at this;exact this,HB.out,HKS.out⟩
  ·have hlt' : (m : Int) < 4 := by omega
   have hne:¬w.heap.size=wr.heap.size:=by omega
   have hle:w.heap.size<wr.heap.size:=by omega
   by_cases hmx:m=1
   ·subst hmx
    have hix:=Xsc
    rw[HJ.out] at hix
    have HF9:Hid (GF B b F l (wr.alloc (.cells #[.int .i64 12, .string (txt [107,101,121,115])] 132))):=by have:=HF.out;rw[HD.out,if_neg (by omega)] at this;exact this.alloc _
    have HB9:=Xa (HB.out.alloc (by omega) (.cells #[.int .i64 12, .string (txt [107,101,121,115])] 132))
    have HK9:=Xa (HKS.out.trans (Beside.alloc b wr (.cells #[.int .i64 12, .string (txt [107,101,121,115])] 132)))
    have HX9:Hid ((wr.alloc (.cells #[.int .i64 12, .string (txt [107,101,121,115])] 132)).heap[w.heap.size]? =some (.cells #[.int .i64 12, .string nm, .int .i64 pl, .slice aC MC cC, .slice aK MK cK, .slice aI M cI] 51 (0,0))):=(Below.heap_alloc _ _ _ hle).trans HXR.out
    obtain ⟨KY,hKY⟩:∃KY:ByteArray,txt [107,101,121,115]=KY:=⟨_,rfl⟩
    have HEQ:Hid (l++KY.data.toList=l++ [107,101,121,115]):=by rw[Hid,←hKY];rfl
    have hkz:KY.size=4:=by rw[←hKY];rfl
    rw[hKY] at hix HF9 HB9 HK9 HX9
    obtain ⟨W9,hW9⟩:∃W9,wr.alloc (.cells #[.int .i64 12, .string KY] 132)=W9:=⟨_,rfl⟩
    rw[hW9] at HF9 HB9 HK9 HX9
    have c1:W9.cell? ⟨wr.heap.size,1,none⟩=some (.string KY):=by rw[←hW9];exact cellAt (heap_alloc_new wr _) (i:=1) rfl
    have HT:=Xa (Je Zr HF9.out.drew KY (by omega) (by have:=HB9.out.size;simp;omega))
    have HW9:=Xa hW9
    have HY9:Hid (W9.heap[wr.heap.size]? =some (.cells #[.int .i64 12, .string KY] 132 (0,0))):=by rw[Hid,←hW9];exact heap_alloc_new wr _
    have z9:=HF9.out.lt
    clear hKY hW9
    go_wp2_with fail
    try rw[HW9.out]
    go_region_held3 (fun w'=>w'.cell? ⟨wr.heap.size,1,none⟩=some (.string KY))
     (first|exact cellAt (X8 k5 HY9.out (by omega) (by decide)) (i:=1) rfl|exact c1)
     (first
      |(go_at_call 92;refine HT.out.mono ?_;rintro e w5 ⟨rfl,f5,b5,k5⟩))
    rw[HEQ.out] at f5
    have HF5:Hid (GF B b F (D (1+1)) w5):=by rw[Hid,HD.out,if_pos (by omega)];exact f5
    have HB5:=Xa (HB9.out.trans ((Below.drew (Below.refl _ _)).trans b5))
    have HK5:=Xa (HK9.out.trans (show Beside b W9 w5 from k5))
    have HX5:=Xa (X8 k5 HX9.out (by omega) (by decide))
    clear f5 b5 k5 c1
    go_wp2_with fail
    first
     |exact ⟨⟨1+1,by omega,by go_num,HF5.out,HB5.out,HK5.out,HX5.out⟩,by simp[intOf]⟩
     | (go_roundw
        case rel=>exact ⟨1+1,by omega,by go_num,HF5.out,HB5.out,HK5.out,HX5.out⟩
        case measure=>simp[intOf])
   ·obtain ⟨kk,sg,hix,hkk⟩:=J5 HJ.out hlt
    rw[Xfq hlt] at hkk
    have hk2:(kk==12)=false:=by simp;omega
    have hk3:¬kk=12:=by omega
    have HF9:Hid (GF B b F (D (m+1)) (wr.alloc (.cells #[.int .i64 kk, .string sg] 132))):=by
     have:=HF.out
     rw[HD.out] at this
     rw[Hid,HD.out]
     by_cases g:1<m
     ·rw[if_pos g] at this;rw[if_pos (by omega)];exact this.alloc _
     ·rw[if_neg g] at this;rw[if_neg (by omega)];exact this.alloc _
    have HB9:=Xa (HB.out.alloc (by omega) (.cells #[.int .i64 kk, .string sg] 132))
    have HK9:=Xa (HKS.out.trans (Beside.alloc b wr (.cells #[.int .i64 kk, .string sg] 132)))
    have HX9:Hid ((wr.alloc (.cells #[.int .i64 kk, .string sg] 132)).heap[w.heap.size]? =some (.cells #[.int .i64 12, .string nm, .int .i64 pl, .slice aC MC cC, .slice aK MK cK, .slice aI M cI] 51 (0,0))):=(Below.heap_alloc _ _ _ hle).trans HXR.out
    clear hkk
    go_wp2_with fail
    first
     |exact ⟨⟨m+1,by omega,by go_num,HF9.out,HB9.out,HK9.out,HX9.out⟩,by simp[intOf];omega⟩
     | (go_roundw
        case rel=>exact ⟨m+1,by omega,by go_num,HF9.out,HB9.out,HK9.out,HX9.out⟩
        case measure=>simp[intOf];omega)
set_option maxRecDepth 100000 in
theorem Xzu {B b : Nat} {F : Value} {fs : List FN} {nm : ByteArray} {pl : Int} {aC aK aI : Option Addr} {MC cC MK cK M cI : Nat} (l : List UInt8) (w : World) (hg : GF B b F l w) (hp : FwP B F fs w) (hlen : (l ++ [110, 111, 116]).length ≤ 100000000) :
  Calls Tryz.prog 58 #[.pointer (some ⟨b,0,none⟩), .agg #[.int .i64 13, .string nm, .int .i64 pl, .slice aC MC cC, .slice aK MK cK, .slice aI M cI]] w fun e w'=>e= .returned (.tuple #[])∧GF B b F (l++ [110,111,116]) w'∧Below B w w'∧Beside b w w':=by
 have z0:=hp.hB
 have hbl:=hg.lt
 obtain ⟨W1,hW1⟩:∃W1,w.alloc (.cells #[.int .i64 13, .string nm, .int .i64 pl, .slice aC MC cC, .slice aK MK cK, .slice aI M cI] 51)=W1:=⟨_,rfl⟩
 have HW1:=Xa hW1
 have HX1:Hid (W1.heap[w.heap.size]? =some (.cells #[.int .i64 13, .string nm, .int .i64 pl, .slice aC MC cC, .slice aK MK cK, .slice aI M cI] 51 (0,0))):=by rw[Hid,←hW1];exact heap_alloc_new w _
 have HF1:Hid (GF B b F l W1):=by rw[Hid,←hW1];exact hg.alloc _
 have HB1:Hid (Below B w W1):=by rw[Hid,←hW1];exact (Below.refl _ _).alloc z0 _
 have HK1:Hid (Beside b w W1):=by rw[Hid,←hW1];exact Beside.alloc _ _ _
 have HP:=Xa hp
 have hl0:=hlen
 simp only[List.length_append,List.length_cons,List.length_nil,Xm] at hl0
 obtain ⟨D,hD⟩:∃D:Nat→List UInt8,∀m,D m=if 2<m then l++ [110,111,116] else l:=⟨_,fun _=>rfl⟩
 have HD:=Xa hD
 clear hg hp hW1 hlen hD
 go_enter Tryz.func58,Tryz.ntmps58
 go_upto_region 21 with fail
 try rw[HW1.out]
 refine wp_region_lit ?_
 refine wpList_load_mid rfl 133 (.global 1) rfl 1 0 rfl wordC _ (HP.out.wd _ HB1.out) Vr rfl Vs ?_
 obtain ⟨J,hJ⟩:∃J,wordC.toArray=J:=⟨_,rfl⟩
 rw[hJ]
 have HJ:=Xa hJ
 clear hJ
 go_wp2_with fail
 go_loopw [5,84] (fun _ i wr=>∃m:Nat,m≤4∧i= .int .i64 m∧GF B b F (D m) wr∧Below B w wr∧Beside b w wr∧wr.heap[w.heap.size]? =some (.cells #[.int .i64 13, .string nm, .int .i64 pl, .slice aC MC cC, .slice aK MK cK, .slice aI M cI] 51 (0,0))) (fun _ i _=>4-(intOf i).toNat)
 case atStart=>exact ⟨0,by omega,rfl,by rw[HD.out,if_neg (by omega)];exact HF1.out,HB1.out,HK1.out,HX1.out⟩
 case round =>
  obtain ⟨m,hm,rfl,hf,hb,hks,hx⟩:=hrel
  have HF:=Xa hf
  have HB:=Xa hb
  have HKS:=Xa hks
  have HXR:=Xa hx
  have zr:=hb.size
  have hblr:=hf.lt
  have x0:wr.cell? ⟨w.heap.size,0,none⟩=some (.int .i64 13):=cellAt hx (i:=0) rfl
  have hxl:=X6 hx
  clear hf hb hks hx
  rcases (show m=4∨m<4 by omega) with rfl|hlt
  ·go_wp2_with fail
   go_end0
   exact ⟨rfl,by have:=HF.out;rw[HD.out,if_pos (by omega)] at this;exact this,HB.out,HKS.out⟩
  ·have hlt' : (m : Int) < 4 := by omega
   have hne:¬w.heap.size=wr.heap.size:=by omega
   have hle:w.heap.size<wr.heap.size:=by omega
   by_cases hmx:m=2
   ·subst hmx
    have hix:=Xsd
    rw[HJ.out] at hix
    have HF9:Hid (GF B b F l (wr.alloc (.cells #[.int .i64 13, .string (txt [110,111,116])] 132))):=by have:=HF.out;rw[HD.out,if_neg (by omega)] at this;exact this.alloc _
    have HB9:=Xa (HB.out.alloc (by omega) (.cells #[.int .i64 13, .string (txt [110,111,116])] 132))
    have HK9:=Xa (HKS.out.trans (Beside.alloc b wr (.cells #[.int .i64 13, .string (txt [110,111,116])] 132)))
    have HX9:Hid ((wr.alloc (.cells #[.int .i64 13, .string (txt [110,111,116])] 132)).heap[w.heap.size]? =some (.cells #[.int .i64 13, .string nm, .int .i64 pl, .slice aC MC cC, .slice aK MK cK, .slice aI M cI] 51 (0,0))):=(Below.heap_alloc _ _ _ hle).trans HXR.out
    obtain ⟨KY,hKY⟩:∃KY:ByteArray,txt [110,111,116]=KY:=⟨_,rfl⟩
    have HEQ:Hid (l++KY.data.toList=l++ [110,111,116]):=by rw[Hid,←hKY];rfl
    have hkz:KY.size=3:=by rw[←hKY];rfl
    rw[hKY] at hix HF9 HB9 HK9 HX9
    obtain ⟨W9,hW9⟩:∃W9,wr.alloc (.cells #[.int .i64 13, .string KY] 132)=W9:=⟨_,rfl⟩
    rw[hW9] at HF9 HB9 HK9 HX9
    have c1:W9.cell? ⟨wr.heap.size,1,none⟩=some (.string KY):=by rw[←hW9];exact cellAt (heap_alloc_new wr _) (i:=1) rfl
    have HT:=Xa (Je Zr HF9.out.drew KY (by omega) (by have:=HB9.out.size;simp;omega))
    have HW9:=Xa hW9
    have HY9:Hid (W9.heap[wr.heap.size]? =some (.cells #[.int .i64 13, .string KY] 132 (0,0))):=by rw[Hid,←hW9];exact heap_alloc_new wr _
    have z9:=HF9.out.lt
    clear hKY hW9
    go_wp2_with fail
    try rw[HW9.out]
    go_region_held3 (fun w'=>w'.cell? ⟨wr.heap.size,1,none⟩=some (.string KY))
     (first|exact cellAt (X8 k5 HY9.out (by omega) (by decide)) (i:=1) rfl|exact c1)
     (first
      |(go_at_call 92;refine HT.out.mono ?_;rintro e w5 ⟨rfl,f5,b5,k5⟩))
    rw[HEQ.out] at f5
    have HF5:Hid (GF B b F (D (2+1)) w5):=by rw[Hid,HD.out,if_pos (by omega)];exact f5
    have HB5:=Xa (HB9.out.trans ((Below.drew (Below.refl _ _)).trans b5))
    have HK5:=Xa (HK9.out.trans (show Beside b W9 w5 from k5))
    have HX5:=Xa (X8 k5 HX9.out (by omega) (by decide))
    clear f5 b5 k5 c1
    go_wp2_with fail
    first
     |exact ⟨⟨2+1,by omega,by go_num,HF5.out,HB5.out,HK5.out,HX5.out⟩,by simp[intOf]⟩
     | (go_roundw
        case rel=>exact ⟨2+1,by omega,by go_num,HF5.out,HB5.out,HK5.out,HX5.out⟩
        case measure=>simp[intOf])
   ·obtain ⟨kk,sg,hix,hkk⟩:=J5 HJ.out hlt
    rw[Xfq hlt] at hkk
    have hk2:(kk==13)=false:=by simp;omega
    have hk3:¬kk=13:=by omega
    have HF9:Hid (GF B b F (D (m+1)) (wr.alloc (.cells #[.int .i64 kk, .string sg] 132))):=by
     have:=HF.out
     rw[HD.out] at this
     rw[Hid,HD.out]
     by_cases g:2<m
     ·rw[if_pos g] at this;rw[if_pos (by omega)];exact this.alloc _
     ·rw[if_neg g] at this;rw[if_neg (by omega)];exact this.alloc _
    have HB9:=Xa (HB.out.alloc (by omega) (.cells #[.int .i64 kk, .string sg] 132))
    have HK9:=Xa (HKS.out.trans (Beside.alloc b wr (.cells #[.int .i64 kk, .string sg] 132)))
    have HX9:Hid ((wr.alloc (.cells #[.int .i64 kk, .string sg] 132)).heap[w.heap.size]? =some (.cells #[.int .i64 13, .string nm, .int .i64 pl, .slice aC MC cC, .slice aK MK cK, .slice aI M cI] 51 (0,0))):=(Below.heap_alloc _ _ _ hle).trans HXR.out
    clear hkk
    go_wp2_with fail
    first
     |exact ⟨⟨m+1,by omega,by go_num,HF9.out,HB9.out,HK9.out,HX9.out⟩,by simp[intOf];omega⟩
     | (go_roundw
        case rel=>exact ⟨m+1,by omega,by go_num,HF9.out,HB9.out,HK9.out,HX9.out⟩
        case measure=>simp[intOf];omega)
set_option maxRecDepth 100000 in
theorem Xzv {B b : Nat} {F : Value} {fs : List FN} {nm : ByteArray} {pl : Int} {aC aK aI : Option Addr} {MC cC MK cK M cI : Nat} (l : List UInt8) (w : World) (hg : GF B b F l w) (hp : FwP B F fs w) (hlen : (l ++ [101, 109, 112, 116, 121]).length ≤ 100000000) :
  Calls Tryz.prog 58 #[.pointer (some ⟨b,0,none⟩), .agg #[.int .i64 14, .string nm, .int .i64 pl, .slice aC MC cC, .slice aK MK cK, .slice aI M cI]] w fun e w'=>e= .returned (.tuple #[])∧GF B b F (l++ [101,109,112,116,121]) w'∧Below B w w'∧Beside b w w':=by
 have z0:=hp.hB
 have hbl:=hg.lt
 obtain ⟨W1,hW1⟩:∃W1,w.alloc (.cells #[.int .i64 14, .string nm, .int .i64 pl, .slice aC MC cC, .slice aK MK cK, .slice aI M cI] 51)=W1:=⟨_,rfl⟩
 have HW1:=Xa hW1
 have HX1:Hid (W1.heap[w.heap.size]? =some (.cells #[.int .i64 14, .string nm, .int .i64 pl, .slice aC MC cC, .slice aK MK cK, .slice aI M cI] 51 (0,0))):=by rw[Hid,←hW1];exact heap_alloc_new w _
 have HF1:Hid (GF B b F l W1):=by rw[Hid,←hW1];exact hg.alloc _
 have HB1:Hid (Below B w W1):=by rw[Hid,←hW1];exact (Below.refl _ _).alloc z0 _
 have HK1:Hid (Beside b w W1):=by rw[Hid,←hW1];exact Beside.alloc _ _ _
 have HP:=Xa hp
 have hl0:=hlen
 simp only[List.length_append,List.length_cons,List.length_nil,Xm] at hl0
 obtain ⟨D,hD⟩:∃D:Nat→List UInt8,∀m,D m=if 3<m then l++ [101,109,112,116,121] else l:=⟨_,fun _=>rfl⟩
 have HD:=Xa hD
 clear hg hp hW1 hlen hD
 go_enter Tryz.func58,Tryz.ntmps58
 go_upto_region 21 with fail
 try rw[HW1.out]
 refine wp_region_lit ?_
 refine wpList_load_mid rfl 133 (.global 1) rfl 1 0 rfl wordC _ (HP.out.wd _ HB1.out) Vr rfl Vs ?_
 obtain ⟨J,hJ⟩:∃J,wordC.toArray=J:=⟨_,rfl⟩
 rw[hJ]
 have HJ:=Xa hJ
 clear hJ
 go_wp2_with fail
 go_loopw [5,84] (fun _ i wr=>∃m:Nat,m≤4∧i= .int .i64 m∧GF B b F (D m) wr∧Below B w wr∧Beside b w wr∧wr.heap[w.heap.size]? =some (.cells #[.int .i64 14, .string nm, .int .i64 pl, .slice aC MC cC, .slice aK MK cK, .slice aI M cI] 51 (0,0))) (fun _ i _=>4-(intOf i).toNat)
 case atStart=>exact ⟨0,by omega,rfl,by rw[HD.out,if_neg (by omega)];exact HF1.out,HB1.out,HK1.out,HX1.out⟩
 case round =>
  obtain ⟨m,hm,rfl,hf,hb,hks,hx⟩:=hrel
  have HF:=Xa hf
  have HB:=Xa hb
  have HKS:=Xa hks
  have HXR:=Xa hx
  have zr:=hb.size
  have hblr:=hf.lt
  have x0:wr.cell? ⟨w.heap.size,0,none⟩=some (.int .i64 14):=cellAt hx (i:=0) rfl
  have hxl:=X6 hx
  clear hf hb hks hx
  rcases (show m=4∨m<4 by omega) with rfl|hlt
  ·go_wp2_with fail
   go_end0
   exact ⟨rfl,by have:=HF.out;rw[HD.out,if_pos (by omega)] at this;exact this,HB.out,HKS.out⟩
  ·have hlt' : (m : Int) < 4 := by omega
   have hne:¬w.heap.size=wr.heap.size:=by omega
   have hle:w.heap.size<wr.heap.size:=by omega
   by_cases hmx:m=3
   ·subst hmx
    have hix:=Xse
    rw[HJ.out] at hix
    have HF9:Hid (GF B b F l (wr.alloc (.cells #[.int .i64 14, .string (txt [101,109,112,116,121])] 132))):=by have:=HF.out;rw[HD.out,if_neg (by omega)] at this;exact this.alloc _
    have HB9:=Xa (HB.out.alloc (by omega) (.cells #[.int .i64 14, .string (txt [101,109,112,116,121])] 132))
    have HK9:=Xa (HKS.out.trans (Beside.alloc b wr (.cells #[.int .i64 14, .string (txt [101,109,112,116,121])] 132)))
    have HX9:Hid ((wr.alloc (.cells #[.int .i64 14, .string (txt [101,109,112,116,121])] 132)).heap[w.heap.size]? =some (.cells #[.int .i64 14, .string nm, .int .i64 pl, .slice aC MC cC, .slice aK MK cK, .slice aI M cI] 51 (0,0))):=(Below.heap_alloc _ _ _ hle).trans HXR.out
    obtain ⟨KY,hKY⟩:∃KY:ByteArray,txt [101,109,112,116,121]=KY:=⟨_,rfl⟩
    have HEQ:Hid (l++KY.data.toList=l++ [101,109,112,116,121]):=by rw[Hid,←hKY];rfl
    have hkz:KY.size=5:=by rw[←hKY];rfl
    rw[hKY] at hix HF9 HB9 HK9 HX9
    obtain ⟨W9,hW9⟩:∃W9,wr.alloc (.cells #[.int .i64 14, .string KY] 132)=W9:=⟨_,rfl⟩
    rw[hW9] at HF9 HB9 HK9 HX9
    have c1:W9.cell? ⟨wr.heap.size,1,none⟩=some (.string KY):=by rw[←hW9];exact cellAt (heap_alloc_new wr _) (i:=1) rfl
    have HT:=Xa (Je Zr HF9.out.drew KY (by omega) (by have:=HB9.out.size;simp;omega))
    have HW9:=Xa hW9
    have HY9:Hid (W9.heap[wr.heap.size]? =some (.cells #[.int .i64 14, .string KY] 132 (0,0))):=by rw[Hid,←hW9];exact heap_alloc_new wr _
    have z9:=HF9.out.lt
    clear hKY hW9
    go_wp2_with fail
    try rw[HW9.out]
    go_region_held3 (fun w'=>w'.cell? ⟨wr.heap.size,1,none⟩=some (.string KY))
     (first|exact cellAt (X8 k5 HY9.out (by omega) (by decide)) (i:=1) rfl|exact c1)
     (first
      |(go_at_call 92;refine HT.out.mono ?_;rintro e w5 ⟨rfl,f5,b5,k5⟩))
    rw[HEQ.out] at f5
    have HF5:Hid (GF B b F (D (3+1)) w5):=by rw[Hid,HD.out,if_pos (by omega)];exact f5
    have HB5:=Xa (HB9.out.trans ((Below.drew (Below.refl _ _)).trans b5))
    have HK5:=Xa (HK9.out.trans (show Beside b W9 w5 from k5))
    have HX5:=Xa (X8 k5 HX9.out (by omega) (by decide))
    clear f5 b5 k5 c1
    go_wp2_with fail
    first
     |exact ⟨⟨3+1,by omega,by go_num,HF5.out,HB5.out,HK5.out,HX5.out⟩,by simp[intOf]⟩
     | (go_roundw
        case rel=>exact ⟨3+1,by omega,by go_num,HF5.out,HB5.out,HK5.out,HX5.out⟩
        case measure=>simp[intOf])
   ·obtain ⟨kk,sg,hix,hkk⟩:=J5 HJ.out hlt
    rw[Xfq hlt] at hkk
    have hk2:(kk==14)=false:=by simp;omega
    have hk3:¬kk=14:=by omega
    have HF9:Hid (GF B b F (D (m+1)) (wr.alloc (.cells #[.int .i64 kk, .string sg] 132))):=by
     have:=HF.out
     rw[HD.out] at this
     rw[Hid,HD.out]
     by_cases g:3<m
     ·rw[if_pos g] at this;rw[if_pos (by omega)];exact this.alloc _
     ·rw[if_neg g] at this;rw[if_neg (by omega)];exact this.alloc _
    have HB9:=Xa (HB.out.alloc (by omega) (.cells #[.int .i64 kk, .string sg] 132))
    have HK9:=Xa (HKS.out.trans (Beside.alloc b wr (.cells #[.int .i64 kk, .string sg] 132)))
    have HX9:Hid ((wr.alloc (.cells #[.int .i64 kk, .string sg] 132)).heap[w.heap.size]? =some (.cells #[.int .i64 14, .string nm, .int .i64 pl, .slice aC MC cC, .slice aK MK cK, .slice aI M cI] 51 (0,0))):=(Below.heap_alloc _ _ _ hle).trans HXR.out
    clear hkk
    go_wp2_with fail
    first
     |exact ⟨⟨m+1,by omega,by go_num,HF9.out,HB9.out,HK9.out,HX9.out⟩,by simp[intOf];omega⟩
     | (go_roundw
        case rel=>exact ⟨m+1,by omega,by go_num,HF9.out,HB9.out,HK9.out,HX9.out⟩
        case measure=>simp[intOf];omega)
end Go.Proofs.YtehihemfepbmfaaGreatDoor
