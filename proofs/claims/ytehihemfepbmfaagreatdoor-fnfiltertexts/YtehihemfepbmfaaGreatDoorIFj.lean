import Derived.Test.YtehihemfepbmfaaGreatDoorFtA
import Derived.Test.YtehihemfepbmfaaGreatDoorGBld
import Derived.Deep.MidRow
import Derived.Deep.Cut
import Derived.Handy
namespace Go.Proofs.YtehihemfepbmfaaGreatDoor
set_option linter.unusedSectionVars false
set_option maxHeartbeats 6400000
open Go.RowKit
set_option linter.unusedSimpArgs false
set_option linter.unusedVariables false
def jkF (i:Nat):Int:= [6,7,21,17,18,19,20,15,16,23].getD i 0
def Zo (k:Int):List UInt8:=if k=23 then [63] else Yl k
def Zw (k:Int):Int:=if k=23 then 6 else Ji k
def Yv (k:Int):Int:=if k=23 then 0 else Qh k
def Zq (k:Int):List Value:= [.int .i64 k, .string (txt (Zo k)), .int .i64 (Xp k), .int .i64 (Zw k), .int .i64 (Yv k)]
def jointC:List Value:=Zq 6++Zq 7++Zq 21++Zq 17++Zq 18++Zq 19++Zq 20++Zq 15++Zq 16++Zq 23
def JtB (B:Nat) (w:World):Prop:=∀w',Below B w w'→w'.rangeAt 0 0 jointC
theorem JtB.next {B:Nat} {w w':World} (h:JtB B w) (hb:Below B w w'):JtB B w':=fun w2 h2=>h w2 (hb.trans h2)
def isJ (k:Int):Bool:=decide (Xp k<7)
def Wv (k:Int):Value:=if isJ k=true then .tuple #[.agg (Zq k).toArray, .bool true] else .tuple #[.agg #[.int .i64 0, .string ByteArray.empty, .int .i64 0, .int .i64 0, .int .i64 0], .bool false]
theorem Xvi:Tryz.prog.underlying 108=some (.array 10 91):=by kernel_rfl
theorem Xvj:(Tryz.prog.info? 108).map (·.size)=some jointC.length:=by kernel_rfl
theorem Xzf (W:World):(Instr.index 108 (.agg jointC.toArray) (.int .i64 0)).run Tryz.prog W= .ok (.agg (Zq 6).toArray) W:=by kernel_rfl
theorem Xzg (W:World):(Instr.index 108 (.agg jointC.toArray) (.int .i64 1)).run Tryz.prog W= .ok (.agg (Zq 7).toArray) W:=by kernel_rfl
theorem Xzh (W:World):(Instr.index 108 (.agg jointC.toArray) (.int .i64 2)).run Tryz.prog W= .ok (.agg (Zq 21).toArray) W:=by kernel_rfl
theorem Xzi (W:World):(Instr.index 108 (.agg jointC.toArray) (.int .i64 3)).run Tryz.prog W= .ok (.agg (Zq 17).toArray) W:=by kernel_rfl
theorem Xzj (W:World):(Instr.index 108 (.agg jointC.toArray) (.int .i64 4)).run Tryz.prog W= .ok (.agg (Zq 18).toArray) W:=by kernel_rfl
theorem Xzk (W:World):(Instr.index 108 (.agg jointC.toArray) (.int .i64 5)).run Tryz.prog W= .ok (.agg (Zq 19).toArray) W:=by kernel_rfl
theorem Xzl (W:World):(Instr.index 108 (.agg jointC.toArray) (.int .i64 6)).run Tryz.prog W= .ok (.agg (Zq 20).toArray) W:=by kernel_rfl
theorem Xzm (W:World):(Instr.index 108 (.agg jointC.toArray) (.int .i64 7)).run Tryz.prog W= .ok (.agg (Zq 15).toArray) W:=by kernel_rfl
theorem Xzn (W:World):(Instr.index 108 (.agg jointC.toArray) (.int .i64 8)).run Tryz.prog W= .ok (.agg (Zq 16).toArray) W:=by kernel_rfl
theorem Xzo (W:World):(Instr.index 108 (.agg jointC.toArray) (.int .i64 9)).run Tryz.prog W= .ok (.agg (Zq 23).toArray) W:=by kernel_rfl
theorem Xxf {k:Int} (h:∀j,j<10→k≠jkF j):k≠6∧k≠7∧k≠21∧k≠17∧k≠18∧k≠19∧k≠20∧k≠15∧k≠16∧k≠23:=⟨h 0 (by omega),h 1 (by omega),h 2 (by omega),h 3 (by omega),h 4 (by omega),h 5 (by omega),h 6 (by omega),h 7 (by omega),h 8 (by omega),h 9 (by omega)⟩
theorem Xhl {R:Ending→World→Prop} {a:Act} {W:World} {b:Nat} {c0 c1 c2 c3 c4 v:Value} {T:TypeId} {z:Nat×Nat} (hh:W.heap[b]? =some (.cells #[c0,c1,c2,c3,c4] T z)) (h2:a.tmps.getD 2 undef= .pointer (some ⟨b,0,none⟩)) (h3:a.tmps.getD 3 undef=v) (hd:a.defers= []) (hR:R (.returned (.tuple #[.agg #[c0,c1,c2,c3,c4],v])) W):bodyPost Tryz.prog Tryz.f57 R .ret a W:=by
 have x0:W.cell? ⟨b,0,none⟩=some c0:=cellAt hh (i:=0) rfl
 have x1:W.cell? ⟨b,1,none⟩=some c1:=cellAt hh (i:=1) rfl
 have x2:W.cell? ⟨b,2,none⟩=some c2:=cellAt hh (i:=2) rfl
 have x3:W.cell? ⟨b,3,none⟩=some c3:=cellAt hh (i:=3) rfl
 have x4:W.cell? ⟨b,4,none⟩=some c4:=cellAt hh (i:=4) rfl
 have h2':a.tmps[2]?.getD undef= .pointer (some ⟨b,0,none⟩):=by simpa using h2
 have h3':a.tmps[3]?.getD undef=v:=by simpa using h3
 refine bodyPost_ret ?_ hd hR
 simp[results,Tryz.results57,go_sem,h2',h3',x0,x1,x2,x3,x4]
theorem Xac {W:World} {b:Nat} {c0 c1 c2 c3 c4 a0 a1 a2 a3 a4:Value} {T:TypeId} {z:Nat×Nat} (hh:W.heap[b]? =some (.cells #[a0,a1,a2,a3,a4] T z)):
  (((((W.setCell ⟨b,0,none⟩ c0).setCell ⟨b,1,none⟩ c1).setCell ⟨b,2,none⟩ c2).setCell ⟨b,3,none⟩ c3).setCell ⟨b,4,none⟩ c4).heap[b]? =some (.cells #[c0,c1,c2,c3,c4] T z):=
 J9 (J9 (J9 (J9 (J9 hh c0) c1) c2) c3) c4
set_option maxRecDepth 100000 in
theorem Xbl (k : Int) (w : World) (hj : JtB w.heap.size w) (h1 : 1 ≤ k) (h2 : k ≤ 23) :
  Calls Tryz.prog 57 #[.int .i64 k] w fun e w'=>e= .returned (Wv k)∧Below w.heap.size w w':=by
 have HR:=Xb (fun W hb=>hj W hb)
 clear hj
 go_enter Tryz.func57,Tryz.ntmps57
 go_upto_region 1 with fail
 refine wp_region_lit ?_
 refine wpList_load_mid rfl 108 (.global 0) rfl 0 0 rfl jointC _ (HR.out _ ((Below.refl _ _).alloc (Nat.le_refl _) _)) Xvi rfl Xvj ?_
 obtain ⟨J,hJ⟩:∃J,jointC.toArray=J:=⟨_,rfl⟩
 rw[hJ]
 have HJ:=Xb hJ
 clear hJ
 obtain ⟨W1,hW1⟩:∃W1,w.alloc (.cells #[.int .i64 0, .string ⟨#[]⟩, .int .i64 0, .int .i64 0, .int .i64 0] 91)=W1:=⟨_,rfl⟩
 have HW1:=Xb hW1
 have HBX:Hid (Below w.heap.size w W1):=by rw[Hid,←hW1];exact (Below.refl _ _).alloc (Nat.le_refl _) _
 have HZ1:Hid (W1.heap.size=w.heap.size+1):=by rw[Hid,←hW1];simp
 have HX:Hid (W1.heap[w.heap.size]? =some (.cells #[.int .i64 0, .string ⟨#[]⟩, .int .i64 0, .int .i64 0, .int .i64 0] 91 (0,0))):=by rw[Hid,←hW1];exact heap_alloc_new w _
 clear hW1
 go_wp2_with fail
 rw[HW1.out]
 go_loopw [5,7,9,10,11,12,13,15] (fun _ i _ _ _ _ _ _ wr=>∃m:Nat,m≤10∧i= .int .i64 m∧(∀j,j<m→k≠jkF j)∧Below (w.heap.size+1) W1 wr) (fun _ i _ _ _ _ _ _ _=>10-(intOf i).toNat)
 case atStart=>exact ⟨0,by omega,rfl,fun j hj=>by omega,Below.refl _ _⟩
 case round=>
  obtain ⟨m,hm,rfl,hno,hbr⟩:=hrel
  have HNO:=Xb hno
  have HBR:=Xb hbr
  have zr:w.heap.size+1≤wr.heap.size:=by have:=hbr.size;rw[HZ1.out] at this;exact this
  have hh:wr.heap[w.heap.size]? =some (.cells #[.int .i64 0, .string ⟨#[]⟩, .int .i64 0, .int .i64 0, .int .i64 0] 91 (0,0)):=(hbr.block _ (by omega)).trans HX.out
  have x0:=cellAt hh (i:=0) rfl
  have x1:=cellAt hh (i:=1) rfl
  have x2:=cellAt hh (i:=2) rfl
  have x3:=cellAt hh (i:=3) rfl
  have x4:=cellAt hh (i:=4) rfl
  have y0:wr.frozen? ⟨w.heap.size,0,none⟩=false:=Lib.frozen_of_heap hh 0
  have y1:wr.frozen? ⟨w.heap.size,1,none⟩=false:=Lib.frozen_of_heap hh 1
  have y2:wr.frozen? ⟨w.heap.size,2,none⟩=false:=Lib.frozen_of_heap hh 2
  have y3:wr.frozen? ⟨w.heap.size,3,none⟩=false:=Lib.frozen_of_heap hh 3
  have y4:wr.frozen? ⟨w.heap.size,4,none⟩=false:=Lib.frozen_of_heap hh 4
  have hne:¬w.heap.size=wr.heap.size:=by omega
  have hlt:w.heap.size<wr.heap.size:=by omega
  have HBW:=Xb (HBX.out.trans (hbr.mono (by omega)))
  have HH:=Xb hh
  clear hno hbr hh
  rcases (show m=10∨m<10 by omega) with rfl|hlt10
  ·have hj:=Xxf HNO.out
   have HE:Hid (Wv k= .tuple #[.agg #[.int .i64 0, .string ByteArray.empty, .int .i64 0, .int .i64 0, .int .i64 0], .bool false]):=by
    have:isJ k=false:=by
     unfold isJ Xp
     simp[hj.1,hj.2.1,hj.2.2.1,hj.2.2.2.1,hj.2.2.2.2.1,hj.2.2.2.2.2.1,hj.2.2.2.2.2.2.1,hj.2.2.2.2.2.2.2.1,hj.2.2.2.2.2.2.2.2.1,hj.2.2.2.2.2.2.2.2.2]
    rw[Hid,Wv,this];rfl
   clear hj
   go_wp2_with fail
   refine Xhl (Xac HH.out) rfl rfl rfl ?_
   exact ⟨by rw[HE.out];rfl,((((HBW.out.setCell (p:=⟨w.heap.size,0,none⟩) (Nat.le_refl _) _).setCell (p:=⟨w.heap.size,1,none⟩) (Nat.le_refl _) _).setCell (p:=⟨w.heap.size,2,none⟩) (Nat.le_refl _) _).setCell (p:=⟨w.heap.size,3,none⟩) (Nat.le_refl _) _).setCell (p:=⟨w.heap.size,4,none⟩) (Nat.le_refl _) _⟩
  ·obtain ⟨kk,sg,lv,lf,rg,hix,hkk,hjr⟩:∃kk sg lv lf rg,(∀W,(Instr.index 108 (.agg J) (.int .i64 (m:Int))).run Tryz.prog W= .ok (.agg #[.int .i64 kk, .string sg, .int .i64 lv, .int .i64 lf, .int .i64 rg]) W)∧kk=jkF m∧Wv kk= .tuple #[.agg #[.int .i64 kk, .string sg, .int .i64 lv, .int .i64 lf, .int .i64 rg], .bool true]:=by
    rw[←HJ.out]
    rcases (show m=0∨m=1∨m=2∨m=3∨m=4∨m=5∨m=6∨m=7∨m=8∨m=9 by omega) with rfl|rfl|rfl|rfl|rfl|rfl|rfl|rfl|rfl|rfl
    ·exact ⟨6,txt (Zo 6),Xp 6,Zw 6,Yv 6,Xzf,rfl,rfl⟩
    ·exact ⟨7,txt (Zo 7),Xp 7,Zw 7,Yv 7,Xzg,rfl,rfl⟩
    ·exact ⟨21,txt (Zo 21),Xp 21,Zw 21,Yv 21,Xzh,rfl,rfl⟩
    ·exact ⟨17,txt (Zo 17),Xp 17,Zw 17,Yv 17,Xzi,rfl,rfl⟩
    ·exact ⟨18,txt (Zo 18),Xp 18,Zw 18,Yv 18,Xzj,rfl,rfl⟩
    ·exact ⟨19,txt (Zo 19),Xp 19,Zw 19,Yv 19,Xzk,rfl,rfl⟩
    ·exact ⟨20,txt (Zo 20),Xp 20,Zw 20,Yv 20,Xzl,rfl,rfl⟩
    ·exact ⟨15,txt (Zo 15),Xp 15,Zw 15,Yv 15,Xzm,rfl,rfl⟩
    ·exact ⟨16,txt (Zo 16),Xp 16,Zw 16,Yv 16,Xzn,rfl,rfl⟩
    ·exact ⟨23,txt (Zo 23),Xp 23,Zw 23,Yv 23,Xzo,rfl,rfl⟩
   have HKK:=Xb hkk
   have HJR:=Xb hjr
   clear hkk hjr
   have hlt':(m:Int)<10:=by omega
   by_cases hk:kk=k
   ·subst hk
    have HBA:Hid (Below w.heap.size w ((((((wr.setCell ⟨w.heap.size,0,none⟩ (.int .i64 kk)).setCell ⟨w.heap.size,1,none⟩ (.string sg)).setCell ⟨w.heap.size,2,none⟩ (.int .i64 lv)).setCell ⟨w.heap.size,3,none⟩ (.int .i64 lf)).setCell ⟨w.heap.size,4,none⟩ (.int .i64 rg)).alloc (.cells #[.int .i64 kk, .string sg, .int .i64 lv, .int .i64 lf, .int .i64 rg] 91))):=(((((HBW.out.setCell (p:=⟨w.heap.size,0,none⟩) (Nat.le_refl _) _).setCell (p:=⟨w.heap.size,1,none⟩) (Nat.le_refl _) _).setCell (p:=⟨w.heap.size,2,none⟩) (Nat.le_refl _) _).setCell (p:=⟨w.heap.size,3,none⟩) (Nat.le_refl _) _).setCell (p:=⟨w.heap.size,4,none⟩) (Nat.le_refl _) _).alloc (by simp;omega) _
    go_wp2_with fail
    refine Xhl ((Below.heap_alloc _ _ _ (by simp;omega)).trans (Xac HH.out)) rfl rfl rfl ?_
    exact ⟨by rw[HJR.out];rfl,HBA.out⟩
   ·have hk2:(kk==k)=false:=by simpa using hk
    have HNN:Hid (∀j,j<m+1→k≠jkF j):=fun j hj=>by
     by_cases e:j=m
     ·subst e;rw[←HKK.out];exact fun e=>hk e.symm
     ·exact HNO.out j (by omega)
    have HB9:Hid (Below (w.heap.size+1) W1 (wr.alloc (.cells #[.int .i64 kk, .string sg, .int .i64 lv, .int .i64 lf, .int .i64 rg] 91))):=HBR.out.alloc zr _
    go_wp2_with fail
    first
     |exact ⟨⟨m+1,by omega,by go_num,HNN.out,HB9.out⟩,by simp[intOf];omega⟩
     | (go_roundw
        case rel=>exact ⟨m+1,by omega,by go_num,HNN.out,HB9.out⟩
        case measure=>simp[intOf];omega)
end Go.Proofs.YtehihemfepbmfaaGreatDoor
