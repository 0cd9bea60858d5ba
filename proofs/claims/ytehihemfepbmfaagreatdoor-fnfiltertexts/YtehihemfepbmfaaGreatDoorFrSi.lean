import Derived.Test.YtehihemfepbmfaaGreatDoorSgD
import Derived.Test.YtehihemfepbmfaaGreatDoorShF
import Derived.Test.YtehihemfepbmfaaGreatDoorUneP
import Derived.Maps.AppendAt
import Derived.Test.YtehihemfepbmfaaGreatDoorIFyE
import Derived.Test.YtehihemfepbmfaaGreatDoorIFj
import Derived.Maps.RangeRun
import Derived.Carry
namespace Go.Proofs.YtehihemfepbmfaaGreatDoor
set_option linter.unusedSectionVars false
set_option maxHeartbeats 6400000
open Go.RowKit
set_option linter.unusedSimpArgs false
set_option linter.unusedVariables false
set_option maxRecDepth 100000 in
theorem Xks {s:ByteArray} (hs:s.size≤4000) (w:World) (ht:Tabs w.heap.size w):
  Calls Tryz.prog 179 #[.string s] w fun e w'=>Below w.heap.size w w'∧((∃v,Q8 s.data.toList=some v∧e= .returned (.int .i64 v))∨(Q8 s.data.toList=none∧e=gup)):=by
 have HT:=Xb ht
 obtain ⟨⟨ev1,he1,hf1⟩,⟨ev2,he2,hf2⟩⟩:=ht.er w (Below.refl _ _)
 clear ht
 cases hp:Lib.parseIntB 64 s.data.toList with
 | «syntax» =>
  have HD:Hid (Q8 s.data.toList=none):=by rw[Hid];unfold Q8;rw[hp]
  have HC:=Xb (Tryz.strconv_ParseInt_10_at64_syntax s (by omega) hp ev1 w he1 hf1)
  clear hp he1 he2
  go_enter Tryz.func179,Tryz.ntmps179
  go_wp2_with fail
  refine HC.out.mono ?_
  rintro e w1 ⟨N,rfl,_,_,hb1⟩
  have HB1:=Xb hb1
  clear hb1
  go_wp2_with fail
  exact ⟨rfl,HB1.out, .inr ⟨HD.out,rfl⟩⟩
 | range =>
  have HD:Hid (Q8 s.data.toList=none):=by rw[Hid];unfold Q8;rw[hp]
  have HC:=Xb (Tryz.strconv_ParseInt_10_at64_range s (by omega) hp ev2 w he2 hf2)
  clear hp he1 he2
  go_enter Tryz.func179,Tryz.ntmps179
  go_wp2_with fail
  refine HC.out.mono ?_
  rintro e w1 ⟨N,rfl,_,_,hb1⟩
  have HB1:=Xb hb1
  clear hb1
  go_wp2_with fail
  exact ⟨rfl,HB1.out, .inr ⟨HD.out,rfl⟩⟩
 | ok v =>
  have hb:=Lib.parseIntB_bounds hp
  have HC:=Xb (Tryz.strconv_ParseInt_10_at64_ok s (by omega) v hp w)
  have h1: -9223372036854775808≤v:=by have:=hb.1;omega
  have h2:v≤9223372036854775807:=by have:=hb.2;omega
  clear hb he1 he2
  by_cases hi:Lib.itoa v=s.data.toList
  ·have HD:Hid (Q8 s.data.toList=some v):=by rw[Hid];unfold Q8;rw[hp];simp only;rw[if_pos hi]
   have e1:(⟨(Lib.itoa v).toArray⟩:ByteArray)=s:=by rw[hi]
   have hss:(s.toList==s.toList)=true:=by simp
   have hsn:(s.toList !=s.toList)=false:=by simp
   clear hp hi
   go_enter Tryz.func179,Tryz.ntmps179
   go_wp2_with fail
   refine HC.out.mono ?_
   rintro e w1 ⟨rfl,hw1⟩
   have HB1:Hid (Below w.heap.size w w1):=by
    rcases hw1 with rfl|⟨t,rfl⟩
    ·exact Below.refl _ _
    ·exact Lib.bytesWorld_below _ _ _
   clear hw1
   have HF:=Xb (G0 v h1 h2 w1 (HT.out.tab w1 HB1.out))
   rw[e1] at HF
   go_wp2_with fail
   refine HF.out.mono ?_
   rintro e w2 ⟨rfl,hb2⟩
   have HB2:=Xb (HB1.out.trans (hb2.mono HB1.out.size))
   clear hb2
   go_wp2_with fail
   go_ret
   exact ⟨HB2.out, .inl ⟨v,HD.out,rfl⟩⟩
  ·have HD:Hid (Q8 s.data.toList=none):=by rw[Hid];unfold Q8;rw[hp];simp only;rw[if_neg hi]
   obtain ⟨t,ht⟩:∃t,(⟨(Lib.itoa v).toArray⟩:ByteArray)=t:=⟨_,rfl⟩
   have hne:¬t=s:=fun e=>hi (by rw[←e,←ht])
   have q0:¬t.toList=s.toList:=fun e=>hne (Xdn (by rw[e];simp))
   have q1:(t.toList==s.toList)=false:=by simpa using q0
   have q2:(t.toList !=s.toList)=true:=by simpa using q0
   clear hp hi hne
   go_enter Tryz.func179,Tryz.ntmps179
   go_wp2_with fail
   refine HC.out.mono ?_
   rintro e w1 ⟨rfl,hw1⟩
   have HB1:Hid (Below w.heap.size w w1):=by
    rcases hw1 with rfl|⟨t,rfl⟩
    ·exact Below.refl _ _
    ·exact Lib.bytesWorld_below _ _ _
   clear hw1
   have HF:=Xb (G0 v h1 h2 w1 (HT.out.tab w1 HB1.out))
   rw[ht] at HF
   go_wp2_with fail
   refine HF.out.mono ?_
   rintro e w2 ⟨rfl,hb2⟩
   have HB2:=Xb (HB1.out.trans (hb2.mono HB1.out.size))
   clear hb2
   go_wp2_with fail
   exact ⟨rfl,HB2.out, .inr ⟨HD.out,rfl⟩⟩

theorem Xd8 {P:Program} {w:World} {ops:Array Oper} {o:Oper} {a:Act} {K:Act→World→Prop} {Q:Exit→Act→World→Prop} {E:Prop} (hgd:o.guard=none) (F:FuncId) (x:Operand) (T:TypeId)
  (ho:o.op= .call {callee:= .value (.func F),args:= #[x],argTypes:= #[T]}) (v:Value) (hx:a.eval x=v) (hcf:∀w,(callFunc F #[v]).run P w= .ok (.enter F #[v]) w) {R:Ending→World→Prop} (hc:Calls P F #[v] w R)
  (h:∀e w',R e w'→(∃u,e= .returned u∧K (a.put o.dst u) w')∨∃c,e= .panicked c∧Q (.panic c) a w'):
  if Region.wanted o (yielded ops a.tmps)=true then Oper.wp P o a w K Q else E:=by
 have hw:Region.wanted o (yielded ops a.tmps)=true:=by simp[Region.wanted,hgd]
 rw[if_pos hw]
 unfold Oper.wp execOp
 have e1:a.eval (.func F)= .func (.func F) #[] #[]:=rfl
 simp[ho,resolve,invoke,hx,e1,Deferred.ofValue,hcf,Result.andThen,Oper.upon_enter]
 refine hc.mono fun e w' hr=> ?_
 rcases h e w' hr with ⟨u,rfl,hk⟩|⟨c,rfl,hk⟩
 ·exact hk
 ·exact hk
theorem Xkb (x:Value):∀w,(callFunc 179 #[x]).run Tryz.prog w= .ok (.enter 179 #[x]) w:=fun w=>by kernel_rfl
theorem FrAt.tabs {w:World} {rb mb base:Nat} {Z:Nat→Prop} {s:ByteArray} {p:Nat} {fs:List FN} (h:FrAt w rb mb base Z s p fs):Tabs w.heap.size w:=h.box.tb.wide (by have:=h.box.rb_lt;have:=h.box.sz;omega)
set_option maxRecDepth 100000 in
theorem Xbo {rb mb base p:Nat} {Z:Nat→Prop} {s:ByteArray} {fs:List FN} {w:World} (h:FrAt w rb mb base Z s p fs) (hs:s.size≤4000):
  Calls Tryz.prog 150 #[.pointer (some ⟨rb,0,none⟩)] w fun e w'=>ButF rb base w w'∧((∃v,Q8 (Jb s.data.toList p)=some v∧e= .returned (.int .i64 v)∧FrAt w' rb mb base Z s (skF s.data.toList (dgJ s.data.toList (Yc s.data.toList p))) fs)∨(Q8 (Jb s.data.toList p)=none∧e=gup)):=by
 have H:=Xa h
 have HLN:=Xa (Xm s)
 have hp:=h.le
 have HPK:=Xa (Wl h hs)
 have hc256:=Jt s.data.toList p
 obtain ⟨c,hc⟩:∃c,Xh s.data.toList p=c:=⟨_,rfl⟩
 have HC:=Xa hc
 rw[hc] at HPK hc256
 obtain ⟨c0,c1,f1,lt0⟩:=h.cells
 clear h hc
 obtain ⟨q0,hq0⟩:∃q0,Yc s.data.toList p=q0:=⟨_,rfl⟩
 have HQ0:=Xa hq0
 have HQP:Hid (q0=if c=45 then p+1 else p):=by
  rw[Hid,←hq0];unfold Yc
  by_cases e:c=45
  ·rw[if_pos e,if_pos]
   refine Xl.2 ⟨?_,by rw[HC.out];exact e⟩
   rcases Nat.lt_or_ge p s.data.toList.length with h|h
   ·exact h
   ·have:=Q2 h;rw[HC.out] at this;omega
  ·rw[if_neg e,if_neg (fun e2=>e (by rw[←HC.out];exact (Xl.1 e2).2))]
 have hq0s:q0≤s.size:=by rw[←hq0,←HLN.out];exact Xcg (by rw[HLN.out];exact hp)
 have hpq0:p≤q0:=by rw[←hq0];exact Wb _ _
 clear hq0
 have HEND:Hid (Jb s.data.toList p=(s.data.toList.drop p).take (dgJ s.data.toList q0-p)):=by rw[Hid];unfold Jb;rw[HQ0.out]
 go_enter Tryz.func150,Tryz.ntmps150
 go_wp2_with fail
 refine HPK.out.mono ?_
 rintro e w1 ⟨rfl,hr1,hb1⟩
 have HR1:=Xa hr1
 have HB1:=Xa hb1
 clear c0 c1 f1 lt0
 obtain ⟨c0,c1,f1,lt0⟩:=hr1.cells
 clear hr1 hb1 HPK
 by_cases h45:c=45
 focus
  subst h45
  have e1:((p+1:Nat):Int)=(p:Int)+1:=by omega
  have hq1:q0=p+1:=by rw[HQP.out];rfl
  have HR2:=Xa (HR1.out.to (q:=p+1) (by omega))
  have HB2:=Xa (HB1.out.trans (ButF.of_set 1 (.int .i64 ((p+1:Nat):Int))))
  rw[e1] at HR2 HB2
  rw[←hq1] at HR2
  have HQ1:=Xa hq1
  clear hq1 e1
  go_wp2_with fail
  obtain ⟨W2,hW2⟩:∃W2,w1.setCell ⟨rb,1,none⟩ (.int .i64 ((p:Int)+1))=W2:=⟨_,rfl⟩
  rw[hW2] at HR2 HB2⊢
  clear hW2 c0 c1 f1 lt0
 rotate_left
 focus
  have n45:((c:Int)==45)=false:=by simp;omega
  have n45':¬(c:Int)=45:=by omega
  have hq1:q0=p:=by rw[HQP.out,if_neg h45]
  have HR2:Hid (FrAt w1 rb mb base Z s q0 fs):=by rw[hq1];exact HR1.out
  have HB2:=HB1
  have HQ1:=Xa hq1
  clear hq1
  go_wp2_with fail
  obtain ⟨W2,hW2⟩:∃W2,w1=W2:=⟨_,rfl⟩
  rw[hW2] at HR2 HB2⊢
  clear hW2 c0 c1 f1 lt0
 all_goals
  go_loopw [32,33] (fun _ _ wr=>∃q,FrAt wr rb mb base Z s q fs∧Hid (dgJ s.data.toList q=dgJ s.data.toList q0)∧ButF rb base w wr∧p≤q) (fun _ _ wr=>s.size-placeOf wr rb)
  case atStart=>exact ⟨q0,HR2.out,rfl,HB2.out,hpq0⟩
  case round=>
   obtain ⟨q,hsr,HK,hbt,hpq⟩:=hrel
   have HS:=Xa hsr
   have HBT:=Xa hbt
   have hqs:=hsr.le
   have HPK:=Xa (Wl hsr hs)
   have hd256:=Jt s.data.toList q
   obtain ⟨d,hd⟩:∃d,Xh s.data.toList q=d:=⟨_,rfl⟩
   have HDD:=Xa hd
   rw[hd] at HPK hd256
   obtain ⟨c0,c1,f1,lt0⟩:=hsr.cells
   clear hsr hbt hd
   go_wp2_with fail
   refine HPK.out.mono ?_
   rintro e w3 ⟨rfl,hr3,hb3⟩
   have HR3:=Xa hr3
   have HB3:=Xa hb3
   clear c0 c1 f1 lt0
   obtain ⟨c0,c1,f1,lt0⟩:=hr3.cells
   clear hr3 hb3
   go_wp2_with fail
   refine (We d w3 hd256).mono ?_
   rintro e w4 ⟨rfl,rfl⟩
   cases hn:Zk d
   ·have hdc:Zn d=false:=by rw[←hn];unfold Zn Zk;rw[Bool.eq_iff_iff];simp
    have HZ:Hid (dgJ s.data.toList q0=q):=by rw[Hid,←HK.out];exact Q1 (fun e=>by rw[HDD.out,hdc] at e;cases e.2)
    obtain ⟨T,hT⟩:∃T,txt ((s.data.toList.drop p).take (q-p))=T:=⟨_,rfl⟩
    have HTT:Hid (T.data.toList=Jb s.data.toList p):=by rw[Hid,HEND.out,HZ.out,←hT,Xz]
    have hTs:T.size≤4000:=by rw[←Xm,HTT.out];unfold Jb;rw[List.length_take,List.length_drop,HLN.out];omega
    have hcut:∀w,(Instr.slice 9 (.string s) (some (.int .i64 (p:Int))) (some (.int .i64 (q:Int))) none).run Tryz.prog w= .ok (.string T) w:=fun w=>by
     rw[Gk (P:=Tryz.prog) (t:=9) s p q Tryz.underlying9 hpq hqs w,hT]
    have HDQ:Hid (dgJ s.data.toList (Yc s.data.toList p)=q):=by rw[Hid,HQ0.out];exact HZ.out
    have HRW:Hid (FrAt w4.drew rb mb base Z s q fs):=HR3.out.below (Below.refl _ _).drew
    have HBT2:Hid (ButF rb base w w4.drew):=(HBT.out.trans HB3.out).trans (ButF.of_below (Below.refl _ _).drew)
    have HDC:=Xa (Xks hTs w4.drew HRW.out.tabs)
    clear hn hdc hT
    go_wp2_with fail
    refine wp_region_any (by kernel_rfl) ?_
    change wpAny _ _ _ _ _ _ _ (World.drew _)
    refine wpAny_take (i:=0) (v:= .pointer (some ⟨rb,0,none⟩)) rfl (by kernel_rfl) (by kernel_rfl) (by kernel_rfl) (fun _ _ _ h=>h) (Or.inl ⟨by kernel_rfl,fun w=> ?_⟩) ?_
    ·go_simp
    refine wpAny_take (i:=1) (v:= .pointer (some ⟨rb,0,none⟩)) rfl (by kernel_rfl) (by kernel_rfl) (by kernel_rfl) (fun _ _ _ h=>h) (Or.inl ⟨by kernel_rfl,fun w=> ?_⟩) ?_
    ·go_simp
    refine wpAny_take (i:=2) (v:= .pointer (some ⟨rb,0,none⟩)) rfl (by kernel_rfl) (by kernel_rfl) (by kernel_rfl) (fun _ _ _ h=>h) (Or.inl ⟨by kernel_rfl,fun w=> ?_⟩) ?_
    ·go_simp
    refine wpAny_take (i:=3) (v:= .pointer (some ⟨rb,0,none⟩)) rfl (by kernel_rfl) (by kernel_rfl) (by kernel_rfl) (fun _ _ _ h=>h) (Or.inl ⟨by kernel_rfl,fun w=> ?_⟩) ?_
    ·go_simp
    refine wpAny_take (i:=4) (v:= .pointer (some ⟨rb,0,none⟩)) rfl (by kernel_rfl) (by kernel_rfl) (by kernel_rfl) (fun _ _ _ h=>h) (Or.inl ⟨by kernel_rfl,fun w=> ?_⟩) ?_
    ·go_simp
    refine wpAny_take (i:=6) (v:= .int .i64 (p:Int)) rfl (by kernel_rfl) (by kernel_rfl) (by kernel_rfl) (fun _ _ _ h=>h) (Or.inl ⟨by kernel_rfl,fun w=> ?_⟩) ?_
    ·go_simp
    refine wpAny_take (i:=7) (v:= .pointer (some ⟨rb,0,none⟩)) rfl (by kernel_rfl) (by kernel_rfl) (by kernel_rfl) (fun _ _ _ h=>h) (Or.inl ⟨by kernel_rfl,fun w=> ?_⟩) ?_
    ·go_simp
    refine wpAny_take (i:=8) (v:= .pointer (some ⟨rb,0,none⟩)) rfl (by kernel_rfl) (by kernel_rfl) (by kernel_rfl) (fun _ _ _ h=>h) (Or.inl ⟨by kernel_rfl,fun w=> ?_⟩) ?_
    ·go_simp
    refine wpAny_take (i:=9) (v:= .pointer (some ⟨rb,0,none⟩)) rfl (by kernel_rfl) (by kernel_rfl) (by kernel_rfl) (fun _ _ _ h=>h) (Or.inl ⟨by kernel_rfl,fun w=> ?_⟩) ?_
    ·go_simp
    refine wpAny_take (i:=10) (v:= .pointer (some ⟨rb,0,none⟩)) rfl (by kernel_rfl) (by kernel_rfl) (by kernel_rfl) (fun _ _ _ h=>h) (Or.inl ⟨by kernel_rfl,fun w=> ?_⟩) ?_
    ·go_simp
    refine wpAny_take (i:=11) (v:= .pointer (some ⟨rb,1,none⟩)) rfl (by kernel_rfl) (by kernel_rfl) (by kernel_rfl) (fun _ _ _ h=>h) (Or.inl ⟨by kernel_rfl,fun w=> ?_⟩) ?_
    ·go_simp
    refine wpAny_ready (rs:= [5,12]) (by kernel_rfl) (by simp) ?_
    refine AllReady.cons rfl (fun K hK=> ?_) (AllReady.cons rfl (fun K hK=> ?_) AllReady.nil)
    ·skip
     go_simp
     refine hK _ _ ?_
     clear K hK
     refine wpAny_ready (rs:= [12]) (by kernel_rfl) (by simp) ?_
     refine AllReady.cons rfl (fun K hK=> ?_) AllReady.nil
     go_simp
     refine hK _ _ ?_
     clear K hK
     refine wpAny_take (i:=13) (v:= .string T) rfl (by kernel_rfl) (by kernel_rfl) (by kernel_rfl) (fun _ _ _ h=>h) (Or.inl ⟨by kernel_rfl,fun w=> ?_⟩) ?_
     ·go_simp
     refine wpAny_ready (rs:= [14]) (by kernel_rfl) (by simp) ?_
     refine AllReady.cons rfl (fun K hK=> ?_) AllReady.nil
     refine Xd8 (by kernel_rfl) 179 (.tmp 58) 9 (by kernel_rfl) (.string T) (by kernel_rfl) (Xkb _) HDC.out ?_
     rintro e w5 ⟨hb5,⟨vv,hd5,rfl⟩|⟨hd5,rfl⟩⟩
     rotate_left
     ·exact .inr ⟨_,rfl,rfl,HBT2.out.trans (ButF.of_below hb5), .inr ⟨by rw[←HTT.out];exact hd5,rfl⟩⟩
     refine .inl ⟨_,rfl,hK _ _ ?_⟩
     clear K hK
     have HD5:=Xa hd5
     have HB5:=Xa (HBT2.out.trans (ButF.of_below hb5))
     have HR5:=Xa (HRW.out.below hb5)
     clear hb5 hd5
     refine wpAny_take (i:=15) (v:= .int .i64 vv) rfl (by kernel_rfl) (by kernel_rfl) (by kernel_rfl) (fun _ _ _ h=>h) (Or.inl ⟨by kernel_rfl,fun w=> ?_⟩) ?_
     ·go_simp
     refine wpAny_done (by kernel_rfl) ?_ _
     go_simp
     have HSK:=Xa (Vx HR5.out hs)
     go_wp2_with fail
     refine HSK.out.mono ?_
     rintro e w6 ⟨rfl,hr6,hb6⟩
     have HR6:=Xa hr6
     have HB6:=Xa (HB5.out.trans hb6)
     clear hr6 hb6
     go_wp2_with fail
     go_ret
     exact ⟨HB6.out, .inl ⟨vv,by rw[←HTT.out];exact HD5.out,rfl,by rw[HDQ.out];exact HR6.out⟩⟩
    ·skip
     go_simp
     refine hK _ _ ?_
     clear K hK
     refine wpAny_ready (rs:= [5]) (by kernel_rfl) (by simp) ?_
     refine AllReady.cons rfl (fun K hK=> ?_) AllReady.nil
     go_simp
     refine hK _ _ ?_
     clear K hK
     refine wpAny_take (i:=13) (v:= .string T) rfl (by kernel_rfl) (by kernel_rfl) (by kernel_rfl) (fun _ _ _ h=>h) (Or.inl ⟨by kernel_rfl,fun w=> ?_⟩) ?_
     ·go_simp
     refine wpAny_ready (rs:= [14]) (by kernel_rfl) (by simp) ?_
     refine AllReady.cons rfl (fun K hK=> ?_) AllReady.nil
     refine Xd8 (by kernel_rfl) 179 (.tmp 58) 9 (by kernel_rfl) (.string T) (by kernel_rfl) (Xkb _) HDC.out ?_
     rintro e w5 ⟨hb5,⟨vv,hd5,rfl⟩|⟨hd5,rfl⟩⟩
     rotate_left
     ·exact .inr ⟨_,rfl,rfl,HBT2.out.trans (ButF.of_below hb5), .inr ⟨by rw[←HTT.out];exact hd5,rfl⟩⟩
     refine .inl ⟨_,rfl,hK _ _ ?_⟩
     clear K hK
     have HD5:=Xa hd5
     have HB5:=Xa (HBT2.out.trans (ButF.of_below hb5))
     have HR5:=Xa (HRW.out.below hb5)
     clear hb5 hd5
     refine wpAny_take (i:=15) (v:= .int .i64 vv) rfl (by kernel_rfl) (by kernel_rfl) (by kernel_rfl) (fun _ _ _ h=>h) (Or.inl ⟨by kernel_rfl,fun w=> ?_⟩) ?_
     ·go_simp
     refine wpAny_done (by kernel_rfl) ?_ _
     go_simp
     have HSK:=Xa (Vx HR5.out hs)
     go_wp2_with fail
     refine HSK.out.mono ?_
     rintro e w6 ⟨rfl,hr6,hb6⟩
     have HR6:=Xa hr6
     have HB6:=Xa (HB5.out.trans hb6)
     clear hr6 hb6
     go_wp2_with fail
     go_ret
     exact ⟨HB6.out, .inl ⟨vv,by rw[←HTT.out];exact HD5.out,rfl,by rw[HDQ.out];exact HR6.out⟩⟩
   ·have hdc:Zn d=true:=by rw[←hn];unfold Zn Zk;rw[Bool.eq_iff_iff];simp
    have hq:q<s.size:=by
     rcases Nat.lt_or_ge q s.size with h|h
     ·exact h
     ·exfalso
      have:Xh s.data.toList q=0:=Q2 (by rw[HLN.out];omega)
      rw[HDD.out] at this
      subst this
      revert hn;decide
    have HNX:Hid (dgJ s.data.toList q=dgJ s.data.toList (q+1)):=Kb (by rw[HLN.out];exact hq) (by rw[HDD.out];exact hdc)
    have e1:((q+1:Nat):Int)=(q:Int)+1:=by omega
    have HR5:=Xa (HR3.out.to (q:=q+1) hq)
    rw[e1] at HR5
    have HB5:=Xa ((HBT.out.trans HB3.out).trans (ButF.of_set 1 (.int .i64 ((q:Int)+1))))
    clear hn hdc e1
    go_wp2_with fail
    go_roundw
    case rel=>exact ⟨q+1,HR5.out,by rw[Hid,←HNX.out];exact HK.out,HB5.out,by omega⟩
    case measure=>rw[HS.out.place,HR5.out.place];omega

theorem Xkg (x:FN) (fs:List FN) (q:Nat):Xu WPr x fs q=some ((fs.length:Int),fs++ [x],q):=by
 unfold Xu;rw[if_neg (fun e=>by cases e.1)]
theorem FrOr.add {x:FN} {fs:List FN} {q rb mb base:Nat} {Z:Nat→Prop} {s:ByteArray} {w w':World} (h:FrAt w' rb mb base Z s q (fs++ [x])) (hb:ButF rb base w w'):FrOr (Xu WPr x fs q) rb mb base Z s w (.returned (.int .i64 (fs.length:Int))) w':=
 ⟨hb, .inl ⟨_,_,_,Xkg _ _ _,rfl,h⟩⟩
theorem FrOr.of {r r':RF} {rb mb base:Nat} {Z:Nat→Prop} {s:ByteArray} {w w':World} {e:Ending} (hr:r=r') (h:FrOr r' rb mb base Z s w e w'):FrOr r rb mb base Z s w e w':=by rw[hr];exact h
theorem FrOr.no {r:RF} {rb mb base:Nat} {Z:Nat→Prop} {s:ByteArray} {w w':World} (hr:r=none) (h:ButF rb base w w'):FrOr r rb mb base Z s w gup w':=⟨h, .inr ⟨hr,rfl⟩⟩
theorem Jv {L:List UInt8} {q c:Nat} {k:Nat→RF} (h:Xe L q c=true):Yj L q c k=k (skF L (q+1)):=by unfold Yj;rw[if_pos h]
theorem Wd {L:List UInt8} {q c:Nat} {k:Nat→RF} (h:Xe L q c=false):Yj L q c k=none:=by unfold Yj;rw[if_neg (by rw[h];simp)]
theorem Ua {rb mb base p:Nat} {Z:Nat→Prop} {s:ByteArray} {fs:List FN} {w:World} (h:FrAt w rb mb base Z s p fs) (hl:fs.length≤4000) (k:Int) (nm:ByteArray) (pl:Int):
  Calls Tryz.prog 112 #[.pointer (some ⟨rb,0,none⟩), .agg #[.int .i64 k, .string nm, .int .i64 pl, .slice none 0 0, .slice none 0 0, .slice none 0 0], .slice none 0 0] w fun e w'=>e= .returned (.int .i64 (fs.length:Int))∧FrAt w' rb mb base Z s p (fs++ [⟨k,nm,pl,[],[],[]⟩])∧ButF rb base w w':=
 Wq (x:=⟨k,nm,pl,[],[],[]⟩) h (U2 _ _) (World.ownsRow_nil _ _ _ _) (World.ownsRow_nil _ _ _ _) (fun y hy=>by rcases hy with e|e|e<;>cases e) (fun y hy=>⟨hy,fun e=>by rcases e with e|e|e<;>cases e⟩) hl
theorem Xkh (w:World) (base:Nat) (ks:List Int) (hb:base≤w.heap.size) (hn:ks.length≤1000):(w.alloc (.cells (ks.map (Value.int .i64)).toArray 2)).ownsRow base 2 1 (.slice (some ⟨w.heap.size,0,none⟩) ks.length ks.length) ks.length (ks.map (.int .i64)):=by
 have:=World.ownsRow_lit (base:=base) (e:=2) (size:=1) w (ks.map (Value.int .i64)).toArray ks.length hb (by unfold maxLen;omega) (by simp)
 simpa using this
theorem Xcq {rb mb base p:Nat} {Z:Nat→Prop} {s:ByteArray} {fs:List FN} {w:World} (h:FrAt w rb mb base Z s p fs) (hZ:∀x,Z x→x<w.heap.size) (hl:fs.length≤4000) (k:Int) (ks:List Int) (hn:ks.length≤1000):
  Calls Tryz.prog 112 #[.pointer (some ⟨rb,0,none⟩), .agg #[.int .i64 k, .string ByteArray.empty, .int .i64 0, .slice none 0 0, .slice none 0 0, .slice none 0 0], .slice (some ⟨w.heap.size,0,none⟩) ks.length ks.length] (w.alloc (.cells (ks.map (Value.int .i64)).toArray 2)) fun e w'=>e= .returned (.int .i64 (fs.length:Int))∧FrAt w' rb mb base Z s p (fs++ [Yw k ks])∧ButF rb base w w':=by
 have hb:Below w.heap.size w (w.alloc (.cells (ks.map (Value.int .i64)).toArray 2)):=(Below.refl _ _).alloc (Nat.le_refl _) _
 refine (Wq (Z:=fun x=>Z x∨x=w.heap.size) (Z':=Z) (x:=Yw k ks) (h.fresh hb (fun x hx=>by rcases hx with hx|hx;exact .inl hx;exact .inr (.inl (by omega)))) (U2 _ _) (World.ownsRow_nil _ _ _ _) (Xkh w base ks h.box.sz hn) (fun y hy=> ?_) (fun y hy=>⟨.inl hy,fun e=> ?_⟩) hl).mono ?_
 ·rcases hy with e|e|e
  ·cases e
  ·cases e
  ·simp[Value.ownBlock] at e;exact .inr e.symm
 ·rcases e with e|e|e
  ·cases e
  ·cases e
  ·simp[Value.ownBlock] at e;have:=hZ y hy;omega
 ·rintro e w' ⟨rfl,h1,h2⟩
  exact ⟨rfl,h1,(ButF.of_below hb).trans h2⟩
theorem Xu6 {rb mb base p:Nat} {Z:Nat→Prop} {s:ByteArray} {fs:List FN} {w:World} (h:FrAt w rb mb base Z s p fs) (hZ:∀x,Z x→x<w.heap.size) (hl:fs.length≤4000) (k n:Int) (t:ByteArray):
  Calls Tryz.prog 112 #[.pointer (some ⟨rb,0,none⟩), .agg #[.int .i64 5, .string ByteArray.empty, .int .i64 0, .slice (some ⟨w.heap.size,0,none⟩) 1 1, .slice none 0 0, .slice none 0 0], .slice none 0 0] (w.alloc (.cells #[.int .i64 k, .int .i64 n, .string t, .slice none 0 0, .slice none 0 0] 102)) fun e w'=>e= .returned (.int .i64 (fs.length:Int))∧FrAt w' rb mb base Z s p (fs++ [Zt ⟨k,n,t,[],[]⟩])∧ButF rb base w w':=by
 have hb:Below w.heap.size w (w.alloc (.cells #[.int .i64 k, .int .i64 n, .string t, .slice none 0 0, .slice none 0 0] 102)):=(Below.refl _ _).alloc (Nat.le_refl _) _
 have hnest:Nest base (w.alloc (.cells #[.int .i64 k, .int .i64 n, .string t, .slice none 0 0, .slice none 0 0] 102)) (.slice (some ⟨w.heap.size,0,none⟩) 1 1) [⟨k,n,t,[],[]⟩] Qt Qt:=by
  refine ⟨?_,fun i hi=> ?_,fun i hi=> ?_,fun i j hi hj e=> ?_,fun i j hi hj e=> ?_⟩
  ·have:=World.ownsRow_lit (base:=base) (e:=102) (size:=5) w #[.int .i64 k, .int .i64 n, .string t, .slice none 0 0, .slice none 0 0] 1 h.box.sz (by unfold maxLen;omega) (by simp)
   have e:K3 [⟨k,n,t,[],[]⟩] Qt Qt= [.int .i64 k, .int .i64 n, .string t, .slice none 0 0, .slice none 0 0]:=by
    have h:=Xbu [] ⟨k,n,t,[],[]⟩ Qt Qt (.slice none 0 0) (.slice none 0 0)
    have e2:upd Qt ([]:List VN).length (.slice none 0 0)=Qt:=by funext i;unfold upd Qt;split<;>rfl
    rw[e2] at h
    exact h
   rw[e];exact this
  ·have:i=0:=by simpa using hi
   subst this;exact World.ownsRow_nil _ _ _ _
  ·have:i=0:=by simpa using hi
   subst this;exact World.ownsRow_nil _ _ _ _
  ·simp at hi hj;omega
  ·simp at hi hj;omega
 refine (Wq (Z:=fun x=>Z x∨x=w.heap.size) (Z':=Z) (x:=Zt ⟨k,n,t,[],[]⟩) (h.fresh hb (fun x hx=>by rcases hx with hx|hx;exact .inl hx;exact .inr (.inl (by omega)))) hnest (World.ownsRow_nil _ _ _ _) (World.ownsRow_nil _ _ _ _) (fun y hy=> ?_) (fun y hy=>⟨.inl hy,fun e=> ?_⟩) hl).mono ?_
 ·rcases hy with e|e|e
  ·simp[Value.ownBlock] at e;exact .inr e.symm
  ·cases e
  ·cases e
 ·rcases e with e|e|e
  ·simp[Value.ownBlock] at e;have:=hZ y hy;omega
  ·cases e
  ·cases e
 ·rintro e w' ⟨rfl,h1,h2⟩
  exact ⟨rfl,h1,(ButF.of_below hb).trans h2⟩
set_option maxRecDepth 100000 in
theorem K0 {rb mb base p:Nat} {Z:Nat→Prop} {s:ByteArray} {fs:List FN} {w:World} (h:FrAt w rb mb base Z s p fs) (hZ:∀x,Z x→x<w.heap.size) (hs:s.size≤4000) (hl:fs.length≤4000) (k n:Int) (t:ByteArray):
  Calls Tryz.prog 148 #[.pointer (some ⟨rb,0,none⟩), .agg #[.int .i64 k, .int .i64 n, .string t, .slice none 0 0, .slice none 0 0]] w (FrOr (Xu WPr (Zt ⟨k,n,t,[],[]⟩) fs (skF s.data.toList p)) rb mb base Z s w):=by
 obtain ⟨W1,hW1⟩:∃W1,w.alloc (.cells #[.int .i64 k, .int .i64 n, .string t, .slice none 0 0, .slice none 0 0] 102)=W1:=⟨_,rfl⟩
 have hb1:Below w.heap.size w W1:=by rw[←hW1];exact (Below.refl _ _).alloc (Nat.le_refl _) _
 have hx1:W1.heap[w.heap.size]? =some (.cells #[.int .i64 k, .int .i64 n, .string t, .slice none 0 0, .slice none 0 0] 102 (0,0)):=by rw[←hW1];exact heap_alloc_new w _
 have hz1:w.heap.size<W1.heap.size:=by rw[←hW1];simp
 have HB1:=Xa hb1
 have HX1:=Xa hx1
 have HF1:=Xa (h.below hb1)
 have HZ:Hid (∀x,Z x→x<w.heap.size):=hZ
 have HSK:=Xa (Vx HF1.out hs)
 have hlt:=h.cells.2.2.2
 have HRB:Hid (w.heap.size≠rb):=by rw[Hid];omega
 have HBS:=Xa h.box.sz
 clear h hZ hb1 hx1
 go_enter Tryz.func148,Tryz.ntmps148
 go_wp2_with fail
 refine HSK.out.mono ?_
 rintro e w2 ⟨rfl,h2,b2⟩
 have HF2:=Xa h2
 have HB2:=Xa b2
 have z2:=b2.size
 have hx2:w2.heap[w.heap.size]? =some (.cells #[.int .i64 k, .int .i64 n, .string t, .slice none 0 0, .slice none 0 0] 102 (0,0)):=(b2.block _ hz1 HRB.out (fun _ ⟨cs,z,e⟩=>by rw[HX1.out] at e;simp at e)).trans HX1.out
 have x0:=cellAt hx2 (i:=0) rfl
 have x1:=cellAt hx2 (i:=1) rfl
 have x2:=cellAt hx2 (i:=2) rfl
 have x3:=cellAt hx2 (i:=3) rfl
 have x4:=cellAt hx2 (i:=4) rfl
 have HC:=Xa (Xu6 h2 (fun x hx=>by have:=HZ.out x hx;omega) hl k n t)
 clear h2 b2 hx2
 go_wp2_with fail
 refine HC.out.mono ?_
 rintro e w3 ⟨rfl,h3,b3⟩
 have HF3:=Xa h3
 have HB3:=Xa (((ButF.of_below HB1.out).trans HB2.out).trans b3)
 clear h3 b3
 go_wp2_with fail
 go_ret
 exact FrOr.add HF3.out HB3.out
set_option maxRecDepth 100000 in
theorem Xh7 {rb mb base p:Nat} {Z:Nat→Prop} {s:ByteArray} {fs:List FN} {w:World} (h:FrAt w rb mb base Z s p fs) (hs:s.size≤4000) (hl:fs.length≤4000):
  Calls Tryz.prog 175 #[.pointer (some ⟨rb,0,none⟩)] w (FrOr (Qo WPr s.data.toList fs p) rb mb base Z s w):=by
 have HT:=Xa (Wm (c:=93) h hs (by omega))
 clear h
 cases hi:Xe s.data.toList p 93
 ·rw[hi] at HT
  have HE:Hid (Qo WPr s.data.toList fs p=Qx WPr s.data.toList p fun n q=>Yj s.data.toList q 93 fun q=>Xu WPr ⟨3,ByteArray.empty,n,[],[],[]⟩ fs q):=by rw[Hid];unfold Qo;rw[if_neg (by rw[hi];simp)]
  clear hi
  go_enter Tryz.func175,Tryz.ntmps175
  go_wp2_with fail
  refine HT.out.mono ?_
  rintro e w1 ⟨rfl,h1,b1⟩
  have HB1:=Xa b1
  have HI:=Xa (Xbo (p:=p) h1 hs)
  clear h1 b1
  go_wp2_with fail
  refine HI.out.mono ?_
  rintro e w2 ⟨b2,⟨v,hd,rfl,h2⟩|⟨hd,rfl⟩⟩
  ·have HB2:=Xa (HB1.out.trans b2)
   have HD:Hid (Qx WPr s.data.toList p (fun n q=>Yj s.data.toList q 93 fun q=>Xu WPr ⟨3,ByteArray.empty,n,[],[],[]⟩ fs q)=Yj s.data.toList (skF s.data.toList (dgJ s.data.toList (Yc s.data.toList p))) 93 fun q=>Xu WPr ⟨3,ByteArray.empty,v,[],[],[]⟩ fs q):=by rw[Hid];unfold Qx;rw[show WPr.dec=Q8 from rfl,hd]
   obtain ⟨q,hq⟩:∃q,skF s.data.toList (dgJ s.data.toList (Yc s.data.toList p))=q:=⟨_,rfl⟩
   rw[hq] at h2 HD
   have HM:=Xa (K1 (c:=93) h2 hs (by omega))
   clear h2 b2 hd hq
   go_wp2_with fail
   refine HM.out.mono ?_
   rintro e w3 ⟨b3,⟨hi,rfl,h3⟩|⟨hi,rfl⟩⟩
   ·have HB3:=Xa (HB2.out.trans b3)
    have HI3:=Xa hi
    have HA:=Xa (Ua h3 hl 3 ByteArray.empty v)
    clear h3 b3 hi
    go_wp2_with fail
    refine HA.out.mono ?_
    rintro e w4 ⟨rfl,h4,b4⟩
    have HF4:=Xa h4
    have HB4:=Xa (HB3.out.trans b4)
    clear h4 b4
    go_wp2_with fail
    go_ret
    exact FrOr.of (by rw[HE.out,HD.out,Jv HI3.out]) (FrOr.add HF4.out HB4.out)
   ·have HB3:=Xa (HB2.out.trans b3)
    have HI3:=Xa hi
    clear b3 hi
    unfold gup
    go_wp2_with fail
    exact ⟨rfl,FrOr.no (by rw[HE.out,HD.out,Wd HI3.out]) HB3.out⟩
  ·have HB2:=Xa (HB1.out.trans b2)
   have HD:Hid (Qx WPr s.data.toList p (fun n q=>Yj s.data.toList q 93 fun q=>Xu WPr ⟨3,ByteArray.empty,n,[],[],[]⟩ fs q)=none):=by rw[Hid];unfold Qx;rw[show WPr.dec=Q8 from rfl,hd]
   clear b2 hd
   unfold gup
   go_wp2_with fail
   exact ⟨rfl,FrOr.no (by rw[HE.out,HD.out]) HB2.out⟩
 ·rw[hi] at HT
  have HE:Hid (Qo WPr s.data.toList fs p=Xu WPr (Qw 4) fs (skF s.data.toList (p+1))):=by rw[Hid];unfold Qo;rw[if_pos hi]
  clear hi
  go_enter Tryz.func175,Tryz.ntmps175
  go_wp2_with fail
  refine HT.out.mono ?_
  rintro e w1 ⟨rfl,h1,b1⟩
  have HB1:=Xa b1
  have HA:=Xa (Ua h1 hl 4 ByteArray.empty 0)
  clear h1 b1
  go_wp2_with fail
  refine HA.out.mono ?_
  rintro e w4 ⟨rfl,h4,b4⟩
  have HF4:=Xa h4
  have HB4:=Xa (HB1.out.trans b4)
  clear h4 b4
  go_wp2_with fail
  go_ret
  exact FrOr.of HE.out (FrOr.add HF4.out HB4.out)

def Xe0 (R:RD) (f rb mb base:Nat) (s:ByteArray):Prop:=∀(least:Int) (Z:Nat→Prop) (fs:List FN) (p:Nat) (w:World),1≤least→least≤6→(∀x,Z x→x<w.heap.size)→FrAt w rb mb base Z s p fs→fs.length≤p→s.size<p+f→Calls Tryz.prog 75 #[.pointer (some ⟨rb,0,none⟩), .int .i64 least] w (FrOr (R least fs p) rb mb base Z s w)
theorem Z5 {a:RF} {k:Int→List FN→Nat→RF} {n:Int} {fs:List FN} {q:Nat} (h:a=some (n,fs,q)):Xy a k=k n fs q:=by rw[h];rfl
theorem Vo {a:RF} {k:Int→List FN→Nat→RF} (h:a=none):Xy a k=none:=by rw[h];rfl
set_option maxRecDepth 100000 in
theorem Xh2 {rb mb base p:Nat} {Z:Nat→Prop} {s:ByteArray} {fs:List FN} {w:World} (h:FrAt w rb mb base Z s p fs) (hs:s.size≤4000) (hl:fs.length≤4000) (hp:p<s.size):
  Calls Tryz.prog 144 #[.pointer (some ⟨rb,0,none⟩)] w (FrOr (Ym WPr s.data.toList fs (p+1)) rb mb base Z s w):=by
 have HLN:=Xa (Xm s)
 obtain ⟨c0,c1,f1,lt0⟩:=h.cells
 have e1:((p+1:Nat):Int)=(p:Int)+1:=by omega
 have h1:=h.to (q:=p+1) hp
 rw[e1] at h1
 obtain ⟨W1,hW1⟩:∃W1,w.setCell ⟨rb,1,none⟩ (.int .i64 ((p:Int)+1))=W1:=⟨_,rfl⟩
 rw[hW1] at h1
 have HF1:=Xa h1
 have HB1:Hid (ButF rb base w W1):=by rw[Hid,←hW1];exact ButF.of_set _ _
 have HPK:=Xa (Wl h1 hs)
 obtain ⟨c,hc⟩:∃c,Xh s.data.toList (p+1)=c:=⟨_,rfl⟩
 have hc256:c<256:=by rw[←hc];exact Jt _ _
 have HC:=Xa hc
 rw[hc] at HPK
 clear h h1 hc e1
 go_enter Tryz.func144,Tryz.ntmps144
 go_wp2_with fail
 refine HPK.out.mono ?_
 rintro e w2 ⟨rfl,h2,b2⟩
 have HF2:=Xa h2
 have HB2:=Xa (HB1.out.trans b2)
 clear h2 b2
 go_wp2_with fail
 refine (Vt c w2 hc256).mono ?_
 rintro e w3 ⟨rfl,rfl⟩
 cases hn:Yt c
 ·have HLA:Hid (¬Yu s.data.toList (p+1)=true):=by rw[Hid];unfold Yu;rw[HC.out,hn];simp
  have HT:=Xa (Wm (c:=91) HF2.out hs (by omega))
  cases hi:Xe s.data.toList (p+1) 91
  ·rw[hi] at HT
   have HE:Hid (Ym WPr s.data.toList fs (p+1)=Xu WPr (Qw 1) fs (skF s.data.toList (p+1))):=by rw[Hid];unfold Ym;rw[if_neg HLA.out,if_neg (by rw[hi];simp)]
   clear hi hn
   go_wp2_with fail
   refine HT.out.mono ?_
   rintro e w4 ⟨rfl,h4,b4⟩
   have HB4:=Xa (HB2.out.trans b4)
   have HSK:=Xa (Vx (p:=p+1) h4 hs)
   clear h4 b4
   go_wp2_with fail
   refine HSK.out.mono ?_
   rintro e w5 ⟨rfl,h5,b5⟩
   have HB5:=Xa (HB4.out.trans b5)
   have HA:=Xa (Ua h5 hl 1 ByteArray.empty 0)
   clear h5 b5
   go_wp2_with fail
   refine HA.out.mono ?_
   rintro e w6 ⟨rfl,h6,b6⟩
   have HF6:=Xa h6
   have HB6:=Xa (HB5.out.trans b6)
   clear h6 b6
   go_wp2_with fail
   go_ret
   exact FrOr.of HE.out (FrOr.add HF6.out HB6.out)
  ·rw[hi] at HT
   have HE:Hid (Ym WPr s.data.toList fs (p+1)=Qo WPr s.data.toList fs (skF s.data.toList (p+1+1))):=by rw[Hid];unfold Ym;rw[if_neg HLA.out,if_pos hi]
   clear hi hn
   go_wp2_with fail
   refine HT.out.mono ?_
   rintro e w4 ⟨rfl,h4,b4⟩
   have HB4:=Xa (HB2.out.trans b4)
   have HP:=Xa (Xh7 (p:=skF s.data.toList (p+1+1)) h4 hs hl)
   clear h4 b4
   go_wp2_with fail
   refine HP.out.mono ?_
   rintro e w5 ⟨b5,⟨n,fs',q,hr,rfl,h5⟩|⟨hr,rfl⟩⟩
   ·have HF5:=Xa h5
    have HR:=Xa hr
    have HB5:=Xa (HB4.out.trans b5)
    clear h5 b5 hr
    go_wp2_with fail
    go_ret
    exact ⟨HB5.out, .inl ⟨n,fs',q,by rw[HE.out];exact HR.out,rfl,HF5.out⟩⟩
   ·have HR:=Xa hr
    have HB5:=Xa (HB4.out.trans b5)
    clear b5 hr
    unfold gup
    go_wp2_with fail
    exact ⟨rfl,FrOr.no (by rw[HE.out];exact HR.out) HB5.out⟩
 ·have HLA:Hid (Yu s.data.toList (p+1)=true):=by
   rw[Hid];unfold Yu;rw[HC.out,hn,Bool.and_true,decide_eq_true_eq]
   rcases Nat.lt_or_ge (p+1) s.data.toList.length with h|h
   ·exact h
   ·exfalso
    have:=Q2 h
    rw[HC.out] at this
    subst this
    revert hn;decide
  have HE:Hid (Ym WPr s.data.toList fs (p+1)=Xu WPr ⟨2,txt (X9 s.data.toList (p+1)),0,[],[],[]⟩ fs (skF s.data.toList (nmJ s.data.toList (p+1)))):=by rw[Hid];unfold Ym;rw[if_pos HLA.out]
  have HN:=Xa (Uu HF2.out hs)
  obtain ⟨T,hT⟩:∃T,txt (X9 s.data.toList (p+1))=T:=⟨_,rfl⟩
  rw[hT] at HN HE
  clear hn hT
  go_wp2_with fail
  refine HN.out.mono ?_
  rintro e w4 ⟨rfl,h4,b4⟩
  have HB4:=Xa (HB2.out.trans b4)
  have HA:=Xa (Ua h4 hl 2 T 0)
  clear h4 b4
  go_wp2_with fail
  refine HA.out.mono ?_
  rintro e w6 ⟨rfl,h6,b6⟩
  have HF6:=Xa h6
  have HB6:=Xa (HB4.out.trans b6)
  clear h6 b6
  go_wp2_with fail
  go_ret
  exact FrOr.of HE.out (FrOr.add HF6.out HB6.out)
section
variable {R:RD} {f rb mb base:Nat} {s:ByteArray} (HR:Xe0 R f rb mb base s) (HG:Jw s.data.toList R)
include HR HG
set_option maxRecDepth 100000 in
theorem Xbz {p:Nat} {Z:Nat→Prop} {fs:List FN} {w:World} (h:FrAt w rb mb base Z s p fs) (hZ:∀x,Z x→x<w.heap.size) (hs:s.size≤4000) (hl:fs.length≤p) (hf:s.size≤p+f):
  Calls Tryz.prog 145 #[.pointer (some ⟨rb,0,none⟩), .int .u8 40, .int .u8 41] w (FrOr (Yj s.data.toList p 40 fun q=>Zl R s.data.toList 41 fs q) rb mb base Z s w):=by
 have HM:=Xa (K1 (c:=40) h hs (by omega))
 have HZ:Hid (∀x,Z x→x<w.heap.size):=hZ
 have HHR:=Xa HR
 have HHG:=Xa HG
 clear h hZ HR HG
 go_enter Tryz.func145,Tryz.ntmps145
 go_wp2_with fail
 refine HM.out.mono ?_
 rintro e w1 ⟨b1,⟨hi,rfl,h1⟩|⟨hi,rfl⟩⟩
 rotate_left
 ·have HB1:=Xa b1
  have HI:=Xa hi
  clear b1 hi
  unfold gup
  go_wp2_with fail
  exact ⟨rfl,FrOr.no (Wd HI.out) HB1.out⟩
 obtain ⟨q,hq⟩:∃q,skF s.data.toList (p+1)=q:=⟨_,rfl⟩
 have HQ:=Xa hq
 have hpq:p+1≤q:=by rw[←hq];exact Xw _ _
 have HB1:=Xa b1
 have HI:=Xa hi
 rw[hq] at h1
 have HRD:=Xa (HHR.out 1 Z fs q w1 (by decide) (by decide) (fun x hx=>Nat.lt_of_lt_of_le (HZ.out x hx) b1.size) h1 (by omega) (by omega))
 clear h1 b1 hi hq
 go_wp2_with fail
 refine HRD.out.mono ?_
 rintro e w2 ⟨b2,⟨n,fs',q2,hr,rfl,h2⟩|⟨hr,rfl⟩⟩
 rotate_left
 ·have HB2:=Xa (HB1.out.trans b2)
  have HRR:=Xa hr
  clear b2 hr
  unfold gup
  go_wp2_with fail
  exact ⟨rfl,FrOr.no (by rw[Jv HI.out,HQ.out];exact Vo HRR.out) HB2.out⟩
 have HB2:=Xa (HB1.out.trans b2)
 have HRR:=Xa hr
 have HM2:=Xa (K1 (c:=41) h2 hs (by omega))
 clear h2 b2 hr
 go_wp2_with fail
 refine HM2.out.mono ?_
 rintro e w3 ⟨b3,⟨hi,rfl,h3⟩|⟨hi,rfl⟩⟩
 rotate_left
 ·have HB3:=Xa (HB2.out.trans b3)
  have HI3:=Xa hi
  clear b3 hi
  unfold gup
  go_wp2_with fail
  exact ⟨rfl,FrOr.no (by rw[Jv HI.out,HQ.out];show Zl R s.data.toList 41 fs q=none;unfold Zl;rw[Z5 HRR.out,Wd HI3.out]) HB3.out⟩
 have HB3:=Xa (HB2.out.trans b3)
 have HF3:=Xa h3
 have HI3:=Xa hi
 clear b3 hi h3
 go_wp2_with fail
 go_ret
 exact ⟨HB3.out, .inl ⟨n,fs',_,by rw[Jv HI.out,HQ.out];show Zl R s.data.toList 41 fs q=_;unfold Zl;rw[Z5 HRR.out,Jv HI3.out],rfl,HF3.out⟩⟩
set_option maxRecDepth 100000 in
theorem Xh3 {p:Nat} {Z:Nat→Prop} {fs:List FN} {w:World} (h:FrAt w rb mb base Z s p fs) (hZ:∀x,Z x→x<w.heap.size) (hs:s.size≤1000) (hl:fs.length≤p) (hf:s.size≤p+f) (hi:Xe s.data.toList p 91=true):
  Calls Tryz.prog 146 #[.pointer (some ⟨rb,0,none⟩)] w (FrOr (Jo WPr R s.data.toList fs (skF s.data.toList (p+1))) rb mb base Z s w):=by
 have HLN:=Xa (Xm s)
 have hps:p<s.size:=by rw[←HLN.out];exact (Xl.1 hi).1
 have HM:=Xa (K1 (c:=91) h (by omega) (by omega))
 have HZ:Hid (∀x,Z x→x<w.heap.size):=hZ
 have HHR:=Xa HR
 have HHG:=Xa HG
 have HI:=Xa hi
 clear h hZ HR HG hi
 obtain ⟨q,hq⟩:∃q,skF s.data.toList (p+1)=q:=⟨_,rfl⟩
 have hpq:p+1≤q:=by rw[←hq];exact Xw _ _
 have hql:q≤s.size:=by rw[←hq,←HLN.out];exact X1 (by rw[HLN.out];omega)
 rw[hq] at HM⊢
 clear hq
 go_enter Tryz.func146,Tryz.ntmps146
 go_wp2_with fail
 refine HM.out.mono ?_
 rintro e w1 ⟨b1,⟨hi,rfl,h1⟩|⟨hi,rfl⟩⟩
 rotate_left
 ·exfalso;rw[HI.out] at hi;cases hi
 have HB1:=Xa b1
 have HT:=Xa (Wm (c:=93) h1 (by omega) (by omega))
 have HZ1:Hid (∀x,Z x→x<w1.heap.size):=fun x hx=>Nat.lt_of_lt_of_le (HZ.out x hx) b1.size
 clear h1 b1 hi
 cases h93:Xe s.data.toList q 93
 ·rw[h93] at HT
  have HE:Hid (Jo WPr R s.data.toList fs q=Xy (R 1 fs q) fun n fs q=>Yj s.data.toList q 93 fun q=>Xu WPr (Yw 8 [n]) fs q):=by rw[Hid];unfold Jo;rw[if_neg (by rw[h93];simp)]
  clear h93
  go_wp2_with fail
  refine HT.out.mono ?_
  rintro e w2 ⟨rfl,h2,b2⟩
  have HB2:=Xa (HB1.out.trans b2)
  have HZ2:Hid (∀x,Z x→x<w2.heap.size):=fun x hx=>Nat.lt_of_lt_of_le (HZ1.out x hx) b2.size
  have HRD:=Xa (HHR.out 1 Z fs q w2 (by decide) (by decide) HZ2.out h2 (by omega) (by omega))
  clear h2 b2
  go_wp2_with fail
  refine HRD.out.mono ?_
  rintro e w3 ⟨b3,⟨n,fs',q2,hr,rfl,h3⟩|⟨hr,rfl⟩⟩
  rotate_left
  ·have HB3:=Xa (HB2.out.trans b3)
   have HRR:=Xa hr
   clear b3 hr
   unfold gup
   go_wp2_with fail
   exact ⟨rfl,FrOr.no (by rw[HE.out];exact Vo HRR.out) HB3.out⟩
  have HB3:=Xa (HB2.out.trans b3)
  have wt:=HHG.out 1 fs q n fs' q2 (by rw[HLN.out];exact hql) hr
  have hcnt:=wt.cnt
  have hle:=wt.le
  rw[HLN.out] at hle
  have HRR:=Xa hr
  have HM2:=Xa (K1 (c:=93) h3 (by omega) (by omega))
  have HZ3:Hid (∀x,Z x→x<w3.heap.size):=fun x hx=>Nat.lt_of_lt_of_le (HZ2.out x hx) b3.size
  clear h3 b3 hr wt
  go_wp2_with fail
  refine HM2.out.mono ?_
  rintro e w4 ⟨b4,⟨hi,rfl,h4⟩|⟨hi,rfl⟩⟩
  rotate_left
  ·have HB4:=Xa (HB3.out.trans b4)
   have HI4:=Xa hi
   clear b4 hi
   unfold gup
   go_wp2_with fail
   exact ⟨rfl,FrOr.no (by rw[HE.out,Z5 HRR.out,Wd HI4.out]) HB4.out⟩
  have HB4:=Xa (HB3.out.trans b4)
  have HI4:=Xa hi
  have HA:=Xa (Xcq h4 (fun x hx=>Nat.lt_of_lt_of_le (HZ3.out x hx) b4.size) (by omega) 8 [n] (by simp))
  clear b4 hi h4
  go_wp2_with fail
  refine HA.out.mono ?_
  rintro e w6 ⟨rfl,h6,b6⟩
  have HF6:=Xa h6
  have HB6:=Xa (HB4.out.trans b6)
  clear h6 b6
  go_wp2_with fail
  go_ret
  exact FrOr.of (by rw[HE.out,Z5 HRR.out,Jv HI4.out]) (FrOr.add HF6.out HB6.out)
 ·rw[h93] at HT
  have HE:Hid (Jo WPr R s.data.toList fs q=Xu WPr (Qw 8) fs (skF s.data.toList (q+1))):=by rw[Hid];unfold Jo;rw[if_pos h93]
  clear h93
  go_wp2_with fail
  refine HT.out.mono ?_
  rintro e w2 ⟨rfl,h2,b2⟩
  have HB2:=Xa (HB1.out.trans b2)
  have HA:=Xa (Ua h2 (by omega) 8 ByteArray.empty 0)
  clear h2 b2
  go_wp2_with fail
  refine HA.out.mono ?_
  rintro e w6 ⟨rfl,h6,b6⟩
  have HF6:=Xa h6
  have HB6:=Xa (HB2.out.trans b6)
  clear h6 b6
  go_wp2_with fail
  go_ret
  exact FrOr.of HE.out (FrOr.add HF6.out HB6.out)
end

theorem Xx9:(Tryz.prog.info? 9).map (fun i=>(i.zero,i.size,i.bytes))=some (some (.string ByteArray.empty),1,16):=by kernel_rfl
theorem Xpp:(Tryz.prog.info? 2).map (fun i=>(i.zero,i.size,i.bytes))=some (some (.int .i64 0),1,8):=by kernel_rfl
theorem Gb {L:List UInt8} {w:List UInt8} {q:Nat} {k:Nat→RF} (h:X9 L q=w):Jn L w q k=k (skF L (nmJ L q)):=by unfold Jn;rw[if_pos h]
theorem Xgd {L:List UInt8} {w:List UInt8} {q:Nat} {k:Nat→RF} (h:X9 L q≠w):Jn L w q k=none:=by unfold Jn;rw[if_neg h]
section
variable {R:RD} {f rb mb base:Nat} {s:ByteArray} (HR:Xe0 R f rb mb base s) (HG:Jw s.data.toList R)
include HR HG
set_option maxRecDepth 100000 in
theorem Xmx {p:Nat} {Z:Nat→Prop} {fs:List FN} {w:World} (h:FrAt w rb mb base Z s p fs) (hZ:∀x,Z x→x<w.heap.size) (hs:s.size≤1000) (hl:fs.length≤p) (hf:s.size<p+f):
  Calls Tryz.prog 180 #[.pointer (some ⟨rb,0,none⟩)] w (FrOr (ifF WPr R s.data.toList fs p) rb mb base Z s w):=by
 have HLN:=Xa (Xm s)
 have hps:=h.le
 have HHR:=Xa HR
 have HHG:=Xa HG
 have HRD:=Xa (HR 1 Z fs p w (by decide) (by decide) hZ h hl hf)
 have HZ:Hid (∀x,Z x→x<w.heap.size):=hZ
 clear h hZ HR HG
 go_enter Tryz.func180,Tryz.ntmps180
 go_wp2_with fail
 refine HRD.out.mono ?_
 rintro e w1 ⟨b1,⟨a,fs1,q1,hr,rfl,h1⟩|⟨hr,rfl⟩⟩
 rotate_left
 ·have HB1:=Xa b1
  have HR1:=Xa hr
  clear b1 hr
  unfold gup
  go_wp2_with fail
  exact ⟨rfl,FrOr.no (by unfold ifF;exact Vo HR1.out) HB1.out⟩
 have HB1:=Xa b1
 have HR1:=Xa hr
 have wt:=HHG.out _ _ _ _ _ _ (by rw[HLN.out];exact hps) hr
 have w1lt:=wt.lt
 have w1cn:=wt.cnt
 have HM:=Xa (Xau (u:=⟨#[116,104,101,110]⟩) h1 (by omega))
 have HZ1:Hid (∀x,Z x→x<w1.heap.size):=fun x hx=>Nat.lt_of_lt_of_le (HZ.out x hx) b1.size
 clear h1 b1 hr wt
 go_wp2_with fail
 refine HM.out.mono ?_
 rintro e w2 ⟨b2,⟨hi,rfl,h2⟩|⟨hi,rfl⟩⟩
 rotate_left
 ·have HB2:=Xa (HB1.out.trans b2)
  have HI2:=Xa hi
  clear b2 hi
  unfold gup
  go_wp2_with fail
  exact ⟨rfl,FrOr.no (by unfold ifF;rw[Z5 HR1.out];exact Xgd HI2.out) HB2.out⟩
 have HB2:=Xa (HB1.out.trans b2)
 have HI2:=Xa hi
 obtain ⟨q2,hq2⟩:∃q,skF s.data.toList (nmJ s.data.toList q1)=q:=⟨_,rfl⟩
 have HQ2:=Xa hq2
 have hq12:q1≤q2:=by rw[←hq2];exact Nat.le_trans (Zh _ _ _) (Xw _ _)
 rw[hq2] at h2
 have hle2:=h2.le
 have HZ2:Hid (∀x,Z x→x<w2.heap.size):=fun x hx=>Nat.lt_of_lt_of_le (HZ1.out x hx) b2.size
 have HRD2:=Xa (HHR.out 1 Z fs1 q2 w2 (by decide) (by decide) HZ2.out h2 (by omega) (by omega))
 clear h2 b2 hi hq2
 go_wp2_with fail
 refine HRD2.out.mono ?_
 rintro e w3 ⟨b3,⟨b,fs3,q3,hr,rfl,h3⟩|⟨hr,rfl⟩⟩
 rotate_left
 ·have HB3:=Xa (HB2.out.trans b3)
  have HR3:=Xa hr
  clear b3 hr
  unfold gup
  go_wp2_with fail
  exact ⟨rfl,FrOr.no (by unfold ifF;rw[Z5 HR1.out];refine (Gb HI2.out).trans ?_;rw[HQ2.out];exact Vo HR3.out) HB3.out⟩
 have HB3:=Xa (HB2.out.trans b3)
 have HR3:=Xa hr
 have wt:=HHG.out _ _ _ _ _ _ (by rw[HLN.out];exact hle2) hr
 have w3lt:=wt.lt
 have w3cn:=wt.cnt
 have HM2:=Xa (Xau (u:=⟨#[101,108,115,101]⟩) h3 (by omega))
 have HZ3:Hid (∀x,Z x→x<w3.heap.size):=fun x hx=>Nat.lt_of_lt_of_le (HZ2.out x hx) b3.size
 clear h3 b3 hr wt
 go_wp2_with fail
 refine HM2.out.mono ?_
 rintro e w4 ⟨b4,⟨hi,rfl,h4⟩|⟨hi,rfl⟩⟩
 rotate_left
 ·have HB4:=Xa (HB3.out.trans b4)
  have HI4:=Xa hi
  clear b4 hi
  unfold gup
  go_wp2_with fail
  exact ⟨rfl,FrOr.no (by unfold ifF;rw[Z5 HR1.out];refine (Gb HI2.out).trans ?_;rw[HQ2.out,Z5 HR3.out];exact Xgd HI4.out) HB4.out⟩
 have HB4:=Xa (HB3.out.trans b4)
 have HI4:=Xa hi
 obtain ⟨q4,hq4⟩:∃q,skF s.data.toList (nmJ s.data.toList q3)=q:=⟨_,rfl⟩
 have HQ4:=Xa hq4
 have hq34:q3≤q4:=by rw[←hq4];exact Nat.le_trans (Zh _ _ _) (Xw _ _)
 rw[hq4] at h4
 have hle4:=h4.le
 have HZ4:Hid (∀x,Z x→x<w4.heap.size):=fun x hx=>Nat.lt_of_lt_of_le (HZ3.out x hx) b4.size
 have HRD4:=Xa (HHR.out 1 Z fs3 q4 w4 (by decide) (by decide) HZ4.out h4 (by omega) (by omega))
 clear h4 b4 hi hq4
 go_wp2_with fail
 refine HRD4.out.mono ?_
 rintro e w5 ⟨b5,⟨c,fs5,q5,hr,rfl,h5⟩|⟨hr,rfl⟩⟩
 rotate_left
 ·have HB5:=Xa (HB4.out.trans b5)
  have HR5:=Xa hr
  clear b5 hr
  unfold gup
  go_wp2_with fail
  exact ⟨rfl,FrOr.no (by unfold ifF;rw[Z5 HR1.out];refine (Gb HI2.out).trans ?_;rw[HQ2.out,Z5 HR3.out];refine (Gb HI4.out).trans ?_;rw[HQ4.out];exact Vo HR5.out) HB5.out⟩
 have HB5:=Xa (HB4.out.trans b5)
 have HR5:=Xa hr
 have wt:=HHG.out _ _ _ _ _ _ (by rw[HLN.out];exact hle4) hr
 have w5lt:=wt.lt
 have w5cn:=wt.cnt
 have w5le:=wt.le
 rw[HLN.out] at w5le
 have HM3:=Xa (Xau (u:=⟨#[101,110,100]⟩) h5 (by omega))
 have HZ5:Hid (∀x,Z x→x<w5.heap.size):=fun x hx=>Nat.lt_of_lt_of_le (HZ4.out x hx) b5.size
 clear h5 b5 hr wt
 go_wp2_with fail
 refine HM3.out.mono ?_
 rintro e w6 ⟨b6,⟨hi,rfl,h6⟩|⟨hi,rfl⟩⟩
 rotate_left
 ·have HB6:=Xa (HB5.out.trans b6)
  have HI6:=Xa hi
  clear b6 hi
  unfold gup
  go_wp2_with fail
  exact ⟨rfl,FrOr.no (by unfold ifF;rw[Z5 HR1.out];refine (Gb HI2.out).trans ?_;rw[HQ2.out,Z5 HR3.out];refine (Gb HI4.out).trans ?_;rw[HQ4.out,Z5 HR5.out];exact Xgd HI6.out) HB6.out⟩
 have HB6:=Xa (HB5.out.trans b6)
 have HI6:=Xa hi
 have HA:=Xa (Xcq h6 (fun x hx=>Nat.lt_of_lt_of_le (HZ5.out x hx) b6.size) (by omega) 22 [a,b,c] (by simp))
 clear h6 b6 hi
 go_wp2_with fail
 refine HA.out.mono ?_
 rintro e w7 ⟨rfl,h7,b7⟩
 have HF7:=Xa h7
 have HB7:=Xa (HB6.out.trans b7)
 clear h7 b7
 go_wp2_with fail
 go_ret
 exact FrOr.of (by unfold ifF;rw[Z5 HR1.out];refine (Gb HI2.out).trans ?_;rw[HQ2.out,Z5 HR3.out];refine (Gb HI4.out).trans ?_;rw[HQ4.out,Z5 HR5.out];exact Gb HI6.out) (FrOr.add HF7.out HB7.out)
end

theorem ButF.grownN {rb base:Nat} {w a b:World} {row:Option Nat} (h:ButF rb base w a) (hg:a.grownBy b row) (hr:∀x,row=some x→w.heap.size≤x):ButF rb base w b:=
 ⟨hg.os.trans h.os,hg.tape.trans h.tape,hg.output.trans h.output,Nat.le_trans h.size hg.size,fun x hx hn ht=>(hg.block x (Nat.lt_of_lt_of_le hx h.size) (fun e=>by have:=hr x e.symm;omega)).trans (h.block x hx hn ht)⟩
theorem FrAt.grown {a b:World} {rb mb base b0 e0 s0 n0:Nat} {Z:Nat→Prop} {s:ByteArray} {p:Nat} {fs:List FN} {v:Value} {xs:List Value} (h:FrAt a rb mb base Z s p fs) (hv:a.ownsRow b0 e0 s0 v n0 xs) (he:51≠e0) (hb:base≤b0) (hZ:∀x,v.ownBlock=some x→Z x∨a.heap.size≤x) (hg:a.grownBy b v.ownBlock):FrAt b rb mb base (fun x=>Z x∨a.heap.size≤x) s p fs:=by
 have hrow:∀x,v.ownBlock=some x→base≤x:=fun x hx=>Nat.le_trans hb (hv.lt x hx).1
 have hbl:∀x,x<base→x<a.heap.size→b.heap[x]? =a.heap[x]? :=fun x hx hxa=>hg.block x hxa (fun e=>by have:=hrow x e.symm;omega)
 have bx:=h.box
 have r1:=bx.rb_lt
 have r2:=bx.mb_lt
 have r3:=bx.sz
 obtain ⟨u,hs,C,N,I,hN,hS⟩:=h.ex
 refine ⟨⟨(hbl mb r2 (by omega)).trans bx.mp,bx.tb.next ⟨hg.os,hg.tape,hg.output,hg.size,fun x hx=>hbl x (by omega) (by omega)⟩,r1,r2,bx.ne,Nat.le_trans r3 hg.size⟩,u,hs.keep (hbl rb r1 (by omega)) hg.size,C,N,I,hN.keep (fun x hx=>hg.block x (hN.row.lt x hx).2 (fun e=> ?_)) (fun x hx=>hg.block x (hN.sub hx).2 (fun e=> ?_)),fun x hx hz=> ?_⟩
 ·rcases J4 hN.row hv he with e2|e2
  ·rw[hx] at e2;cases e2
  ·exact e2 (hx.trans e)
 ·rcases hZ x e.symm with h1|h1
  ·exact hS x hx h1
  ·have:=(hN.sub hx).2;omega
 ·rcases hz with h1|h1
  ·exact hS x hx h1
  ·have:=(hN.sub hx).2;omega
section
variable {R:RD} {f rb mb base:Nat} {s:ByteArray} (HR:Xe0 R f rb mb base s) (HG:Jw s.data.toList R)
include HR HG
set_option maxRecDepth 100000 in
theorem Xkf {p:Nat} {Z:Nat→Prop} {fs:List FN} {w:World} (h:FrAt w rb mb base Z s p fs) (hZ:∀x,Z x→x<w.heap.size) (hs:s.size≤1000) (hl:fs.length≤p) (hf:s.size≤p+f) (hi:Xe s.data.toList p 123=true):
  Calls Tryz.prog 147 #[.pointer (some ⟨rb,0,none⟩)] w (FrOr (Jf WPr R s.data.toList fs (skF s.data.toList (p+1))) rb mb base Z s w):=by
 obtain ⟨i1,hi1,hz1,hs1,hy1⟩:=info_parts Xpp
 obtain ⟨j1,hj1,hzj,hsj,hyj⟩:=info_parts Xx9
 have HLN:=Xa (Xm s)
 have hps:p<s.size:=by rw[←HLN.out];exact (Xl.1 hi).1
 have HM:=Xa (K1 (c:=123) h (by omega) (by omega))
 have HZ:Hid (∀x,Z x→x<w.heap.size):=hZ
 have HHR:=Xa HR
 have HHG:=Xa HG
 have HI:=Xa hi
 have hrb:rb<w.heap.size:=h.cells.2.2.2
 have hbw:base≤w.heap.size:=h.box.sz
 clear h hZ HR HG hi
 obtain ⟨q,hq⟩:∃q,skF s.data.toList (p+1)=q:=⟨_,rfl⟩
 have hpq:p+1≤q:=by rw[←hq];exact Xw _ _
 have hql:q≤s.size:=by rw[←hq,←HLN.out];exact X1 (by rw[HLN.out];omega)
 rw[hq] at HM⊢
 clear hq
 go_enter Tryz.func147,Tryz.ntmps147
 go_wp2_with fail
 refine HM.out.mono ?_
 rintro e w1 ⟨b1,⟨hi,rfl,h1⟩|⟨hi,rfl⟩⟩
 rotate_left
 ·exfalso;rw[HI.out] at hi;cases hi
 have HB1:=Xa b1
 have HT:=Xa (Wm (c:=125) h1 (by omega) (by omega))
 clear h1 b1 hi
 cases h125:Xe s.data.toList q 125
 rotate_left
 ·rw[h125] at HT
  have HE:Hid (Jf WPr R s.data.toList fs q=Xu WPr (Qw 9) fs (skF s.data.toList (q+1))):=by rw[Hid];unfold Jf;rw[if_pos h125]
  clear h125
  go_wp2_with fail
  refine HT.out.mono ?_
  rintro e w2 ⟨rfl,h2,b2⟩
  have HB2:=Xa (HB1.out.trans b2)
  have HA:=Xa (Ua h2 (by omega) 9 ByteArray.empty 0)
  clear h2 b2
  go_wp2_with fail
  refine HA.out.mono ?_
  rintro e w6 ⟨rfl,h6,b6⟩
  have HF6:=Xa h6
  have HB6:=Xa (HB2.out.trans b6)
  clear h6 b6
  go_wp2_with fail
  go_ret
  exact FrOr.of HE.out (FrOr.add HF6.out HB6.out)
 rw[h125] at HT
 have HE:Hid (Jf WPr R s.data.toList fs q=Zm WPr R s.data.toList (s.size+1) [] [] fs q):=by rw[Hid];unfold Jf;rw[if_neg (by rw[h125];simp),HLN.out]
 clear h125
 go_wp2_with fail
 refine HT.out.mono ?_
 rintro e w2 ⟨rfl,h2,b2⟩
 have HF2:=Xa h2
 have HB2:=Xa (HB1.out.trans b2)
 clear h2 b2
 go_wp2_with fail
 go_loopw [3,4] (fun kv it wr=>∃(g y:Nat) (names:List ByteArray) (kids:List Int) (fs':List FN),names.length+g=s.size+1∧names.length+(p+1)≤y∧kids.length=names.length∧fs'.length≤y∧FrAt wr rb mb base (fun x=>Z x∨kv.ownBlock=some x∨it.ownBlock=some x) s y fs'∧ButF rb base w wr∧wr.ownsRow w.heap.size 9 1 kv names.length (names.map .string)∧wr.ownsRow w.heap.size 2 1 it kids.length (kids.map (.int .i64))∧Hid (Jf WPr R s.data.toList fs q=Zm WPr R s.data.toList g names kids fs' y)) (fun _ _ wr=>s.size+1-placeOf wr rb)
 case atStart=>exact ⟨s.size+1,q,[],[],fs,by simp,by simpa using hpq,rfl,by omega,HF2.out.more (fun x hx=>by rcases hx with hx|hx|hx;exact .inl hx;cases hx;cases hx),HB2.out,World.ownsRow_nil _ _ _ _,World.ownsRow_nil _ _ _ _,HE.out⟩
 case round=>
  obtain ⟨g,y,names,kids,fs',hng,hny,hkl,hfl,hfr,hbt,hrn,hrk,HEQ⟩:=hrel
  have hys:=hfr.le
  obtain ⟨g,rfl⟩:∃g',g=g'+1:=⟨g-1,by omega⟩
  have HS:=Xb hfr
  have HBT:=Xb hbt
  have HRN:=Xb hrn
  have HRK:=Xb hrk
  have zr:=hbt.size
  obtain ⟨ak,ck,ek⟩:=Ki hrn
  obtain ⟨ai,ci,ei⟩:=Ki hrk
  obtain ⟨k,hlen⟩:∃k,names.length=k:=⟨_,rfl⟩
  have HKL:Hid (kids.length=k):=by rw[Hid,hkl,hlen]
  rw[hkl,hlen] at ei
  rw[hlen] at ek hng hny hkl
  have HLEN:=Xb hlen
  subst ek ei
  have HNM:=Xb (Uu hfr (by omega))
  have hnmle:nmJ s.data.toList y≤s.size:=by rw[←HLN.out];exact Gz (by rw[HLN.out];exact hys)
  have hnmge:y≤nmJ s.data.toList y:=Zh _ _ _
  obtain ⟨z,hz⟩:∃z,txt (X9 s.data.toList y)=z:=⟨_,rfl⟩
  have HZZ:=Xb hz
  obtain ⟨y1,hy1'⟩:∃y1,skF s.data.toList (nmJ s.data.toList y)=y1:=⟨_,rfl⟩
  have hy1l:y≤y1:=by rw[←hy1'];exact Nat.le_trans hnmge (Xw _ _)
  have HY1:=Xb hy1'
  rw[hz,hy1'] at HNM
  clear hfr hbt hrn hrk hlen hkl hz hy1' hnmle hnmge
  go_wp2_with fail
  refine HNM.out.mono ?_
  rintro e w3 ⟨rfl,h3,b3⟩
  have hrn3:=b3.own HRN.out (by decide) hrb
  have hrk3:=b3.own HRK.out (by decide) hrb
  have HB3:=Xb (HBT.out.trans b3)
  have z3:=HB3.out.size
  have HF3:=Xb h3
  have HK3:=Xb hrk3
  have HRO:Hid (w3.ownsRow w.heap.size 9 1 (.slice ak k ck) k (names.map Value.string)):=by rw[HLEN.out] at hrn3;exact hrn3
  clear h3 b3 hrn3 hrk3
  go_wp2_with (at_builtin;refine wpList_append_own_at _ rfl _ _ 48 rfl w.heap.size 9 j1 (.string ByteArray.empty) 1 16 Tryz.underlying48 hj1 hzj hsj hyj rfl (by decide) _ _ _ rfl (HRO.out.alloc _) ⟨w3.heap.size,0,none⟩ 1 1 [.string z] rfl rfl ?c1 ?c2 ?c3 ?c4 ?c5 ?_)
  case c1=>exact cell_one_new _ _ _
  case c2=>intro u hu;simp at hu;subst hu;rfl
  case c3=>unfold maxLen;omega
  case c4=>omega
  case c5=>simp;omega
  intro v' w5 hown hgrow _ hat
  have hga:=(World.grownBy_alloc w3 (.cells #[.string z] 9) (Value.slice ak k ck).ownBlock).trans hgrow
  have HF5:=Xb (HF3.out.grown HRO.out (by decide) hbw (fun x hx=> .inl (.inr (.inl hx))) hga)
  have HB5:=Xb (HB3.out.grownN hga (fun x hx=>(HRO.out.lt x hx).1))
  have HK5:=Xb (HK3.out.kept hga (J4 HK3.out HRO.out (by decide)))
  have HN5:Hid (w5.ownsRow w.heap.size 9 1 v' (names++ [z]).length ((names++ [z]).map .string)):=by rw[Hid,List.length_append,List.length_singleton,HLEN.out,List.map_append];exact hown
  have HVB:Hid (∀x,v'.ownBlock=some x→((Value.slice ak k ck).ownBlock=some x∨w3.heap.size≤x)):=fun x hx=>by
   rcases hat with e|e
   ·exact .inl (by rw[←e];exact hx)
   ·rw[e] at hx;simp at hx;exact .inr (by omega)
  have z5:=HB5.out.size
  obtain ⟨av,cv,ev⟩:=Ki hown
  subst ev
  clear hown hgrow hat hga
  have HF5':Hid (FrAt w5 rb mb base (fun x=>Z x∨(Value.slice av (k+1) cv).ownBlock=some x∨(Value.slice ai k ci).ownBlock=some x) s y1 fs'):=HF5.out.more (fun x hx=>by
   rcases hx with hx|hx|hx
   ·exact .inl (.inl (.inl hx))
   ·rcases HVB.out x hx with h|h
    ·exact .inl (.inl (.inr (.inl h)))
    ·exact .inl (.inr h)
   ·exact .inl (.inl (.inr (.inr hx))))
  have HM5:=Xb (K1 (c:=58) HF5'.out (by omega) (by omega))
  go_wp2_with fail
  refine HM5.out.mono ?_
  rintro e w6 ⟨b6,⟨hi6,rfl,h6⟩|⟨hi6,rfl⟩⟩
  rotate_left
  ·have HB6:=Xa (HB5.out.trans b6)
   have HI6:=Xa hi6
   clear b6 hi6
   unfold gup
   go_wp2_with fail
   exact ⟨rfl,FrOr.no (by rw[HEQ.out,Zm,show WPr.nam s.data.toList y=nmJ s.data.toList y from rfl,HY1.out];exact Wd HI6.out) HB6.out⟩
  have HB6:=Xa (HB5.out.trans b6)
  have HI6:=Xa hi6
  have HN6:=Xa (b6.own HN5.out (by decide) hrb)
  have HK6:=Xa (b6.own HK5.out (by decide) hrb)
  have z6:=HB6.out.size
  obtain ⟨y2,hy2⟩:∃y2,skF s.data.toList (y1+1)=y2:=⟨_,rfl⟩
  have hy2l:y1+1≤y2:=by rw[←hy2];exact Xw _ _
  have HY2:=Xb hy2
  rw[hy2] at h6
  have hy2s:=h6.le
  have HRD:=Xa (HHR.out 3 (fun x=>Z x∨(Value.slice av (k+1) cv).ownBlock=some x∨(Value.slice ai k ci).ownBlock=some x) fs' y2 w6 (by decide) (by decide) (fun x hx=>by
   rcases hx with hx|hx|hx
   ·have:=HZ.out x hx;omega
   ·exact (HN6.out.lt x hx).2
   ·exact (HK6.out.lt x hx).2) h6 (by omega) (by omega))
  clear h6 b6 hi6 hy2
  go_wp2_with fail
  refine HRD.out.mono ?_
  rintro e w7 ⟨b7,⟨n,fs7,y3,hr7,rfl,h7⟩|⟨hr7,rfl⟩⟩
  rotate_left
  ·have HB7:=Xa (HB6.out.trans b7)
   have HR7:=Xa hr7
   clear b7 hr7
   unfold gup
   go_wp2_with fail
   exact ⟨rfl,FrOr.no (by rw[HEQ.out,Zm,show WPr.nam s.data.toList y=nmJ s.data.toList y from rfl,HY1.out,Jv HI6.out,HY2.out];exact Vo HR7.out) HB7.out⟩
  have wt:=HHG.out _ _ _ _ _ _ (by rw[HLN.out];exact hy2s) hr7
  have w7lt:=wt.lt
  have w7cn:=wt.cnt
  have w7le:=wt.le
  rw[HLN.out] at w7le
  have HB7:=Xa (HB6.out.trans b7)
  have HR7:=Xa hr7
  have HN7:=Xa (b7.own HN6.out (by decide) hrb)
  have HF7:=Xa h7
  have z7:=HB7.out.size
  have HRO7:Hid (w7.ownsRow w.heap.size 2 1 (.slice ai k ci) k (kids.map (Value.int .i64))):=by have:=b7.own HK6.out (by decide) hrb;rw[HKL.out] at this;exact this
  clear h7 b7 hr7 wt
  go_wp2_with (at_builtin;refine wpList_append_own_at _ rfl _ _ 49 rfl w.heap.size 2 i1 (.int .i64 0) 1 8 Tryz.underlying49 hi1 hz1 hs1 hy1 rfl (by decide) _ _ _ rfl (HRO7.out.alloc _) ⟨w7.heap.size,0,none⟩ 1 1 [.int .i64 n] rfl rfl ?d1 ?d2 ?d3 ?d4 ?d5 ?_)
  case d1=>exact cell_one_new _ _ _
  case d2=>intro u hu;simp at hu;subst hu;rfl
  case d3=>unfold maxLen;omega
  case d4=>omega
  case d5=>simp;omega
  intro v8 w8 hown hgrow _ hat
  have hga:=(World.grownBy_alloc w7 (.cells #[.int .i64 n] 2) (Value.slice ai k ci).ownBlock).trans hgrow
  have HF8:=Xb (HF7.out.grown HRO7.out (by decide) hbw (fun x hx=> .inl (.inr (.inr hx))) hga)
  have HB8:=Xb (HB7.out.grownN hga (fun x hx=>(HRO7.out.lt x hx).1))
  have HN8:=Xb (HN7.out.kept hga (J4 HN7.out HRO7.out (by decide)))
  have HK8:Hid (w8.ownsRow w.heap.size 2 1 v8 (kids++ [n]).length ((kids++ [n]).map (.int .i64))):=by rw[Hid,List.length_append,List.length_singleton,HKL.out,List.map_append];exact hown
  have HVB8:Hid (∀x,v8.ownBlock=some x→((Value.slice ai k ci).ownBlock=some x∨w7.heap.size≤x)):=fun x hx=>by
   rcases hat with e|e
   ·exact .inl (by rw[←e];exact hx)
   ·rw[e] at hx;simp at hx;exact .inr (by omega)
  have z8:=HB8.out.size
  obtain ⟨a8,c8,ev⟩:=Ki hown
  subst ev
  clear hown hgrow hat hga
  have HF8':Hid (FrAt w8 rb mb base (fun x=>Z x∨(Value.slice av (k+1) cv).ownBlock=some x∨(Value.slice a8 (k+1) c8).ownBlock=some x) s y3 fs7):=HF8.out.more (fun x hx=>by
   rcases hx with hx|hx|hx
   ·exact .inl (.inl (.inl hx))
   ·exact .inl (.inl (.inr (.inl hx)))
   ·rcases HVB8.out x hx with h|h
    ·exact .inl (.inl (.inr (.inr h)))
    ·exact .inl (.inr h))
  have HSTEP:Hid (Jf WPr R s.data.toList fs q=if Xe s.data.toList y3 125=true then Xu WPr (Vv (names++ [z]) (kids++ [n])) fs7 (skF s.data.toList (y3+1)) else Yj s.data.toList y3 44 fun q=>Zm WPr R s.data.toList g (names++ [z]) (kids++ [n]) fs7 q):=by
   rw[Hid,HEQ.out,Zm,show WPr.nam s.data.toList y=nmJ s.data.toList y from rfl,HY1.out,Jv HI6.out,HY2.out,Z5 HR7.out,←HZZ.out];rfl
  have HT8:=Xb (Wm (c:=125) HF8'.out (by omega) (by omega))
  cases h125:Xe s.data.toList y3 125
  ·rw[h125] at HT8
   have HST:Hid (Jf WPr R s.data.toList fs q=Yj s.data.toList y3 44 fun q=>Zm WPr R s.data.toList g (names++ [z]) (kids++ [n]) fs7 q):=by rw[Hid,HSTEP.out,if_neg (by rw[h125];simp)]
   clear h125 HSTEP
   go_wp2_with fail
   refine HT8.out.mono ?_
   rintro e w9 ⟨rfl,h9,b9⟩
   have HB9:=Xa (HB8.out.trans b9)
   have HN9:=Xa (b9.own HN8.out (by decide) hrb)
   have HK9:=Xa (b9.own HK8.out (by decide) hrb)
   have HM9:=Xa (K1 (p:=y3) (c:=44) h9 (by omega) (by omega))
   clear h9 b9
   go_wp2_with fail
   refine HM9.out.mono ?_
   rintro e w10 ⟨b10,⟨hi10,rfl,h10⟩|⟨hi10,rfl⟩⟩
   rotate_left
   ·have HB10:=Xa (HB9.out.trans b10)
    have HI10:=Xa hi10
    clear b10 hi10
    unfold gup
    go_wp2_with fail
    exact ⟨rfl,FrOr.no (by rw[HST.out];exact Wd HI10.out) HB10.out⟩
   have HB10:=Xa (HB9.out.trans b10)
   have HI10:=Xa hi10
   have HN10:=Xa (b10.own HN9.out (by decide) hrb)
   have HK10:=Xa (b10.own HK9.out (by decide) hrb)
   have hge:=Xw s.data.toList (y3+1)
   have HF10:=Xa h10
   clear b10 hi10 h10
   go_wp2_with fail
   go_roundw
   case rel=>
    refine ⟨g,skF s.data.toList (y3+1),names++ [z],kids++ [n],fs7, ?_, ?_, ?_,by omega,HF10.out,HB10.out,HN10.out,HK10.out, ?_⟩
    ·rw[List.length_append,List.length_singleton,HLEN.out];omega
    ·rw[List.length_append,List.length_singleton,HLEN.out];omega
    ·rw[List.length_append,List.length_append,List.length_singleton,List.length_singleton,HLEN.out,HKL.out]
    ·rw[Hid,HST.out,Jv HI10.out]
   case measure=>rw[HS.out.place,HF10.out.place];have:=HF10.out.le;omega
  ·rw[h125] at HT8
   have HST:Hid (Jf WPr R s.data.toList fs q=Xu WPr (Vv (names++ [z]) (kids++ [n])) fs7 (skF s.data.toList (y3+1))):=by rw[Hid,HSTEP.out,if_pos h125]
   clear h125 HSTEP
   go_wp2_with fail
   refine HT8.out.mono ?_
   rintro e w9 ⟨rfl,h9,b9⟩
   have HB9:=Xa (HB8.out.trans b9)
   have hn9:=Xaq (b9.own HN8.out (by decide) hrb) hbw
   have hk9:=Xaq (b9.own HK8.out (by decide) hrb) hbw
   have HA:=Xa (Wq (p:=skF s.data.toList (y3+1)) (Z':=Z) (x:=Vv (names++ [z]) (kids++ [n])) (kc:= .slice none 0 0) (kn:= .slice av (k+1) cv) (ki:= .slice a8 (k+1) c8) (k0:= .slice none 0 0) h9 (U2 _ _) hn9 hk9 (fun x hx=>by
    rcases hx with hx|hx|hx
    ·cases hx
    ·exact .inr (.inl hx)
    ·exact .inr (.inr hx)) (fun x hx=>⟨.inl hx,fun e=>by
    have h0:=HZ.out x hx
    rcases e with e|e|e
    ·cases e
    ·have:=(HN8.out.lt x e).1;omega
    ·have:=(HK8.out.lt x e).1;omega⟩) (by omega))
   clear h9 b9 hn9 hk9
   go_wp2_with fail
   refine HA.out.mono ?_
   rintro e w10 ⟨rfl,h10,b10⟩
   have HF10:=Xa h10
   have HB10:=Xa (HB9.out.trans b10)
   clear h10 b10
   go_wp2_with fail
   go_ret
   exact FrOr.of HST.out (FrOr.add HF10.out HB10.out)
end

def wtL (i:Nat):List UInt8:= [[108,101,110,103,116,104],[107,101,121,115],[110,111,116],[101,109,112,116,121]].getD i []
theorem Xwx {J:Array Value} (hJ:wordC.toArray=J) {m:Nat} (hm:m<4):∃kk sg,(∀W,(Instr.index 133 (.agg J) (.int .i64 (m:Int))).run Tryz.prog W= .ok (.agg #[.int .i64 kk, .string sg]) W)∧kk=wkF m∧sg=txt (wtL m):=by
 rw[←hJ]
 rcases (show m=0∨m=1∨m=2∨m=3 by omega) with rfl|rfl|rfl|rfl
 ·exact ⟨_,_,Xsb,rfl,rfl⟩
 ·exact ⟨_,_,Xsc,rfl,rfl⟩
 ·exact ⟨_,_,Xsd,rfl,rfl⟩
 ·exact ⟨_,_,Xse,rfl,rfl⟩
theorem Xnm {R:RD} {L:List UInt8} {w:List UInt8} {fs:List FN} {p:Nat} {m:Nat} (hm:m<4) (h:w=wtL m):X4 WPr R L w fs p=Xu WPr (Qw (wkF m)) fs p:=by
 subst h
 rcases (show m=0∨m=1∨m=2∨m=3 by omega) with rfl|rfl|rfl|rfl<;>rfl
theorem Xnn {R:RD} {L:List UInt8} {w:List UInt8} {fs:List FN} {p:Nat} (h1:w≠Xic) (h2:w≠Xid) (h3:w≠Xfl) (h4:w≠ [115,101,108,101,99,116]) (h5:w≠ [105,102]) (h:∀m,m<4→w≠wtL m):X4 WPr R L w fs p=none:=by
 unfold X4
 rw[if_neg h1,if_neg h2,if_neg h3,if_neg h4,if_neg h5,if_neg (show w≠ [108,101,110,103,116,104] from h 0 (by omega)),if_neg (show w≠ [107,101,121,115] from h 1 (by omega)),if_neg (show w≠ [110,111,116] from h 2 (by omega)),if_neg (show w≠ [101,109,112,116,121] from h 3 (by omega))]
section
variable {R:RD} {f rb mb base:Nat} {s:ByteArray} (HR:Xe0 R f rb mb base s) (HG:Jw s.data.toList R)
include HR HG
set_option maxRecDepth 100000 in
theorem Xhw {p : Nat} {Z : Nat → Prop} {fs : List FN} {w : World} (h : FrAt w rb mb base Z s p fs) (hZ : ∀ x, Z x → x < w.heap.size) (hs : s.size ≤ 1000) (hl : fs.length ≤ p) (hf : s.size ≤ p + f) :
  Calls Tryz.prog 151 #[.pointer (some ⟨rb,0,none⟩)] w (FrOr (X4 WPr R s.data.toList (X9 s.data.toList p) fs (skF s.data.toList (nmJ s.data.toList p))) rb mb base Z s w):=by
 have HLN:=Xa (Xm s)
 have hps:=h.le
 have HN:=Xa (Uu h (by omega))
 have HZ:Hid (∀x,Z x→x<w.heap.size):=hZ
 have HHR:=Xa HR
 have HHG:=Xa HG
 have hnge:p≤nmJ s.data.toList p:=Zh _ _ _
 have HNE:Hid (X9 s.data.toList p≠ []→p<nmJ s.data.toList p):=fun hne=>by
  rcases Nat.lt_or_ge p (nmJ s.data.toList p) with h|h
  ·exact h
  ·exfalso;refine hne ?_;unfold X9;rw[show nmJ s.data.toList p-p=0 by omega];rfl
 obtain ⟨L,hL⟩:∃L,X9 s.data.toList p=L:=⟨_,rfl⟩
 obtain ⟨q,hq⟩:∃q,skF s.data.toList (nmJ s.data.toList p)=q:=⟨_,rfl⟩
 have HNQ:Hid (L≠ []→p<q):=fun hne=>by
  have h1:=HNE.out (by rw[hL];exact hne)
  have h2:=Xw s.data.toList (nmJ s.data.toList p)
  rw[hq] at h2;omega
 have hpq:p≤q:=by rw[←hq];exact Nat.le_trans hnge (Xw _ _)
 have HIQ:Hid (skF s.data.toList q=q):=by rw[Hid,←hq];exact Yh _ _
 rw[hL,hq] at HN
 rw[hL,hq]
 obtain ⟨T,hT⟩:∃T,txt L=T:=⟨_,rfl⟩
 have HT:Hid (T.toList=L):=by rw[Hid,←hT,ByteArray.toList_eq,Xz]
 rw[hT] at HN
 clear h hZ HR HG hT hL hq hnge HNE
 by_cases e_null:L= [110,117,108,108]
 ·have HNE:=Xa (HNQ.out (by rw[e_null];simp))
  have HE:Hid (X4 WPr R s.data.toList L fs q=Xu WPr (Zt ⟨1,0,ByteArray.empty,[],[]⟩) fs (skF s.data.toList q)):=by rw[Hid,HIQ.out,e_null];rfl
  have q_null:(T.toList== [110,117,108,108])=true:=by rw[HT.out,e_null];rfl
  clear e_null
  go_enter Tryz.func151,Tryz.ntmps151
  go_wp2_with fail
  refine HN.out.mono ?_
  rintro e w1 ⟨rfl,h1,b1⟩
  have HF1:=Xa h1
  have HB1:=Xa b1
  have HZ1:Hid (∀x,Z x→x<w1.heap.size):=fun x hx=>Nat.lt_of_lt_of_le (HZ.out x hx) b1.size
  clear h1 b1
  have HC:=Xa (K0 HF1.out HZ1.out (by omega) (by omega) 1 0 ByteArray.empty)
  go_wp2_with fail
  refine HC.out.mono ?_
  rintro e w2 ⟨b2,⟨n2,fs2,q2,hr,rfl,h2⟩|⟨hr,rfl⟩⟩
  ·have HB2:=Xa (HB1.out.trans b2)
   have HF2:=Xa h2
   have HR2:=Xa hr
   clear b2 h2 hr
   go_wp2_with fail
   go_ret
   exact ⟨HB2.out, .inl ⟨n2,fs2,q2,by rw[HE.out];exact HR2.out,rfl,HF2.out⟩⟩
  ·have HB2:=Xa (HB1.out.trans b2)
   have HR2:=Xa hr
   clear b2 hr
   unfold gup
   go_wp2_with fail
   exact ⟨rfl,FrOr.no (by rw[HE.out];exact HR2.out) HB2.out⟩
 have n_null:L≠ [110,117,108,108]:=e_null
 clear e_null
 by_cases e_false:L= [102,97,108,115,101]
 ·have HNE:=Xa (HNQ.out (by rw[e_false];simp))
  have HE:Hid (X4 WPr R s.data.toList L fs q=Xu WPr (Zt ⟨2,0,ByteArray.empty,[],[]⟩) fs (skF s.data.toList q)):=by rw[Hid,HIQ.out,e_false];rfl
  have q_null:(T.toList== [110,117,108,108])=false:=by rw[HT.out];exact beq_false_of_ne n_null
  have q_false:(T.toList== [102,97,108,115,101])=true:=by rw[HT.out,e_false];rfl
  clear e_false n_null
  go_enter Tryz.func151,Tryz.ntmps151
  go_wp2_with fail
  refine HN.out.mono ?_
  rintro e w1 ⟨rfl,h1,b1⟩
  have HF1:=Xa h1
  have HB1:=Xa b1
  have HZ1:Hid (∀x,Z x→x<w1.heap.size):=fun x hx=>Nat.lt_of_lt_of_le (HZ.out x hx) b1.size
  clear h1 b1
  have HC:=Xa (K0 HF1.out HZ1.out (by omega) (by omega) 2 0 ByteArray.empty)
  go_wp2_with fail
  refine HC.out.mono ?_
  rintro e w2 ⟨b2,⟨n2,fs2,q2,hr,rfl,h2⟩|⟨hr,rfl⟩⟩
  ·have HB2:=Xa (HB1.out.trans b2)
   have HF2:=Xa h2
   have HR2:=Xa hr
   clear b2 h2 hr
   go_wp2_with fail
   go_ret
   exact ⟨HB2.out, .inl ⟨n2,fs2,q2,by rw[HE.out];exact HR2.out,rfl,HF2.out⟩⟩
  ·have HB2:=Xa (HB1.out.trans b2)
   have HR2:=Xa hr
   clear b2 hr
   unfold gup
   go_wp2_with fail
   exact ⟨rfl,FrOr.no (by rw[HE.out];exact HR2.out) HB2.out⟩
 have n_false:L≠ [102,97,108,115,101]:=e_false
 clear e_false
 by_cases e_true:L= [116,114,117,101]
 ·have HNE:=Xa (HNQ.out (by rw[e_true];simp))
  have HE:Hid (X4 WPr R s.data.toList L fs q=Xu WPr (Zt ⟨2,1,ByteArray.empty,[],[]⟩) fs (skF s.data.toList q)):=by rw[Hid,HIQ.out,e_true];rfl
  have q_null:(T.toList== [110,117,108,108])=false:=by rw[HT.out];exact beq_false_of_ne n_null
  have q_false:(T.toList== [102,97,108,115,101])=false:=by rw[HT.out];exact beq_false_of_ne n_false
  have q_true:(T.toList== [116,114,117,101])=true:=by rw[HT.out,e_true];rfl
  clear e_true n_null n_false
  go_enter Tryz.func151,Tryz.ntmps151
  go_wp2_with fail
  refine HN.out.mono ?_
  rintro e w1 ⟨rfl,h1,b1⟩
  have HF1:=Xa h1
  have HB1:=Xa b1
  have HZ1:Hid (∀x,Z x→x<w1.heap.size):=fun x hx=>Nat.lt_of_lt_of_le (HZ.out x hx) b1.size
  clear h1 b1
  have HC:=Xa (K0 HF1.out HZ1.out (by omega) (by omega) 2 1 ByteArray.empty)
  go_wp2_with fail
  refine HC.out.mono ?_
  rintro e w2 ⟨b2,⟨n2,fs2,q2,hr,rfl,h2⟩|⟨hr,rfl⟩⟩
  ·have HB2:=Xa (HB1.out.trans b2)
   have HF2:=Xa h2
   have HR2:=Xa hr
   clear b2 h2 hr
   go_wp2_with fail
   go_ret
   exact ⟨HB2.out, .inl ⟨n2,fs2,q2,by rw[HE.out];exact HR2.out,rfl,HF2.out⟩⟩
  ·have HB2:=Xa (HB1.out.trans b2)
   have HR2:=Xa hr
   clear b2 hr
   unfold gup
   go_wp2_with fail
   exact ⟨rfl,FrOr.no (by rw[HE.out];exact HR2.out) HB2.out⟩
 have n_true:L≠ [116,114,117,101]:=e_true
 clear e_true
 by_cases e_select:L= [115,101,108,101,99,116]
 ·have HNE:=Xa (HNQ.out (by rw[e_select];simp))
  have HE:Hid (X4 WPr R s.data.toList L fs q=Vy WPr R s.data.toList fs q):=by rw[Hid,e_select];rfl
  have q_null:(T.toList== [110,117,108,108])=false:=by rw[HT.out];exact beq_false_of_ne n_null
  have q_false:(T.toList== [102,97,108,115,101])=false:=by rw[HT.out];exact beq_false_of_ne n_false
  have q_true:(T.toList== [116,114,117,101])=false:=by rw[HT.out];exact beq_false_of_ne n_true
  have q_select:(T.toList== [115,101,108,101,99,116])=true:=by rw[HT.out,e_select];rfl
  clear e_select n_null n_false n_true
  go_enter Tryz.func151,Tryz.ntmps151
  go_wp2_with fail
  refine HN.out.mono ?_
  rintro e w1 ⟨rfl,h1,b1⟩
  have HF1:=Xa h1
  have HB1:=Xa b1
  have HZ1:Hid (∀x,Z x→x<w1.heap.size):=fun x hx=>Nat.lt_of_lt_of_le (HZ.out x hx) b1.size
  clear h1 b1
  have hpq1:=HNE.out
  have HC:=Xa (Xbz HHR.out HHG.out HF1.out HZ1.out (by omega) (by omega) (by omega))
  go_wp2_with fail
  refine HC.out.mono ?_
  rintro e w2 ⟨b2,⟨n2,fs2,q2,hr,rfl,h2⟩|⟨hr,rfl⟩⟩
  ·have HB2:=Xa (HB1.out.trans b2)
   have hql:=HF1.out.le
   have hcnt:fs2.length≤4000:=by
    obtain ⟨ei,hr2⟩:=Zi hr
    have e1:=(Xl.1 ei).1
    have e2:=Xw s.data.toList (q+1)
    have wt:=(Xbn HHG.out (p0:=q) (by omega) (X1 (by omega)) hr2).1
    have:=wt.cnt
    have:=wt.le
    rw[HLN.out] at this
    omega
   have HR2:=Xa hr
   have HA:=Xa (Xcq h2 (fun x hx=>Nat.lt_of_lt_of_le (HZ1.out x hx) b2.size) hcnt 10 [n2] (by simp))
   clear b2 h2 hr hcnt
   go_wp2_with fail
   refine HA.out.mono ?_
   rintro e w3 ⟨rfl,h3,b3⟩
   have HF3:=Xa h3
   have HB3:=Xa (HB2.out.trans b3)
   clear h3 b3
   go_wp2_with fail
   go_ret
   refine FrOr.of ?_ (FrOr.add HF3.out HB3.out)
   rw[HE.out]
   obtain ⟨ei,hr2⟩:=Zi HR2.out
   unfold Vy
   rw[Jv ei,Z5 hr2]
  ·have HB2:=Xa (HB1.out.trans b2)
   have HR2:=Xa hr
   clear b2 hr
   unfold gup
   go_wp2_with fail
   refine ⟨rfl,FrOr.no ?_ HB2.out⟩
   rw[HE.out]
   unfold Vy
   cases ei:Xe s.data.toList q 40
   ·exact Wd ei
   ·have h1:=HR2.out
    rw[Jv ei] at h1
    rw[Jv ei]
    exact Vo h1
 have n_select:L≠ [115,101,108,101,99,116]:=e_select
 clear e_select
 by_cases e_if:L= [105,102]
 ·have HNE:=Xa (HNQ.out (by rw[e_if];simp))
  have HE:Hid (X4 WPr R s.data.toList L fs q=ifF WPr R s.data.toList fs q):=by rw[Hid,e_if];rfl
  have q_null:(T.toList== [110,117,108,108])=false:=by rw[HT.out];exact beq_false_of_ne n_null
  have q_false:(T.toList== [102,97,108,115,101])=false:=by rw[HT.out];exact beq_false_of_ne n_false
  have q_true:(T.toList== [116,114,117,101])=false:=by rw[HT.out];exact beq_false_of_ne n_true
  have q_select:(T.toList== [115,101,108,101,99,116])=false:=by rw[HT.out];exact beq_false_of_ne n_select
  have q_if:(T.toList== [105,102])=true:=by rw[HT.out,e_if];rfl
  clear e_if n_null n_false n_true n_select
  go_enter Tryz.func151,Tryz.ntmps151
  go_wp2_with fail
  refine HN.out.mono ?_
  rintro e w1 ⟨rfl,h1,b1⟩
  have HF1:=Xa h1
  have HB1:=Xa b1
  have HZ1:Hid (∀x,Z x→x<w1.heap.size):=fun x hx=>Nat.lt_of_lt_of_le (HZ.out x hx) b1.size
  clear h1 b1
  have hpq1:=HNE.out
  have HC:=Xa (Xmx HHR.out HHG.out HF1.out HZ1.out hs (by omega) (by omega))
  go_wp2_with fail
  refine HC.out.mono ?_
  rintro e w2 ⟨b2,⟨n2,fs2,q2,hr,rfl,h2⟩|⟨hr,rfl⟩⟩
  ·have HB2:=Xa (HB1.out.trans b2)
   have HF2:=Xa h2
   have HR2:=Xa hr
   clear b2 h2 hr
   go_wp2_with fail
   go_ret
   exact ⟨HB2.out, .inl ⟨n2,fs2,q2,by rw[HE.out];exact HR2.out,rfl,HF2.out⟩⟩
  ·have HB2:=Xa (HB1.out.trans b2)
   have HR2:=Xa hr
   clear b2 hr
   unfold gup
   go_wp2_with fail
   exact ⟨rfl,FrOr.no (by rw[HE.out];exact HR2.out) HB2.out⟩
 have n_if:L≠ [105,102]:=e_if
 clear e_if
 have q_null:(T.toList== [110,117,108,108])=false:=by rw[HT.out];exact beq_false_of_ne n_null
 have q_false:(T.toList== [102,97,108,115,101])=false:=by rw[HT.out];exact beq_false_of_ne n_false
 have q_true:(T.toList== [116,114,117,101])=false:=by rw[HT.out];exact beq_false_of_ne n_true
 have q_select:(T.toList== [115,101,108,101,99,116])=false:=by rw[HT.out];exact beq_false_of_ne n_select
 have q_if:(T.toList== [105,102])=false:=by rw[HT.out];exact beq_false_of_ne n_if
 have HNN:Hid (L≠Xic∧L≠Xid∧L≠Xfl∧L≠ [115,101,108,101,99,116]∧L≠ [105,102]):=⟨n_null,n_true,n_false,n_select,n_if⟩
 clear n_null n_true n_false n_select n_if
 go_enter Tryz.func151,Tryz.ntmps151
 go_upto_region 1 with fail
 go_upto_region 2 with (go_at_call 173;refine HN.out.mono ?_;rintro e w1 ⟨rfl,h1,b1⟩)
 have HF1:=Xa h1
 have HB1:=Xa b1
 clear h1 b1
 go_upto_region 13 with fail
 refine wp_region_lit ?_
 refine wpList_load_mid rfl 133 (.global 1) rfl 1 0 rfl wordC _ (HF1.out.box.tb.wd _ (Below.refl _ _)) Vr rfl Vs ?_
 obtain ⟨J,hJ⟩:∃J,wordC.toArray=J:=⟨_,rfl⟩
 rw[hJ]
 have HJ:=Xa hJ
 clear hJ
 go_wp2_with fail
 go_loopw [5,37] (fun _ i wr=>∃m:Nat,m≤4∧i= .int .i64 m∧FrAt wr rb mb base Z s q fs∧ButF rb base w wr∧Hid (∀j,j<m→L≠wtL j)) (fun _ i _=>4-(intOf i).toNat)
 case atStart=>exact ⟨0,by omega,rfl,HF1.out,HB1.out,fun j hj=>by omega⟩
 case round=>
  obtain ⟨m,hm,rfl,hfr,hbt,HNO⟩:=hrel
  have HF:=Xa hfr
  have HB:=Xa hbt
  clear hfr hbt
  rcases (show m=4∨m<4 by omega) with rfl|hlt
  ·have HE:Hid (X4 WPr R s.data.toList L fs q=none):=Xnn HNN.out.1 HNN.out.2.1 HNN.out.2.2.1 HNN.out.2.2.2.1 HNN.out.2.2.2.2 HNO.out
   go_wp2_with fail
   exact ⟨rfl,FrOr.no HE.out HB.out⟩
  ·have hlt' : (m : Int) < 4 := by omega
   obtain ⟨kk,sg,hix,hkk,hsg⟩:=Xwx HJ.out hlt
   have HKK:=Xa hkk
   have HSG:Hid (sg.toList=wtL m):=by rw[Hid,hsg,ByteArray.toList_eq,Xz]
   have hba:Below wr.heap.size wr (wr.alloc (.cells #[.int .i64 kk, .string sg] 132)):=(Below.refl _ _).alloc (Nat.le_refl _) _
   have HF9:=Xa (HF.out.below hba)
   have HB9:=Xa (HB.out.trans (ButF.of_below hba))
   clear hkk hsg hba
   by_cases he:L=wtL m
   ·have q9:(sg.toList==T.toList)=true:=by rw[HSG.out,HT.out,he];exact beq_self_eq_true _
    have HE:Hid (X4 WPr R s.data.toList L fs q=Xu WPr (Qw kk) fs q):=by rw[Hid,HKK.out];exact Xnm hlt he
    have HA:=Xa (Ua HF9.out (by have:=HF.out.le;omega) kk ByteArray.empty 0)
    clear he
    go_wp2_with fail
    refine HA.out.mono ?_
    rintro e w3 ⟨rfl,h3,b3⟩
    have HF3:=Xa h3
    have HB3:=Xa (HB9.out.trans b3)
    clear h3 b3
    go_wp2_with fail
    go_ret
    exact FrOr.of HE.out (FrOr.add HF3.out HB3.out)
   ·have q9:(sg.toList==T.toList)=false:=by rw[HSG.out,HT.out];exact beq_false_of_ne (fun e=>he e.symm)
    have HNO2:Hid (∀j,j<m+1→L≠wtL j):=fun j hj=>by
     by_cases e:j=m
     ·subst e;exact he
     ·exact HNO.out j (by omega)
    clear he
    go_wp2_with fail
    first
     |exact ⟨⟨m+1,by omega,by go_num,HF9.out,HB9.out,HNO2.out⟩,by simp[intOf];omega⟩
     | (go_roundw
        case rel=>exact ⟨m+1,by omega,by go_num,HF9.out,HB9.out,HNO2.out⟩
        case measure=>simp[intOf];omega)
end

open Go.ChangeMaps (setBlock)
def SpB (B : Nat) (w : World) : Prop := ∀ w', Below B w w' → Lib.TabIs Tryz.prog w' "strings.asciiSpace" .u8 Lib.asciiSpaceTab
theorem SpB.next {B:Nat} {w w':World} (h:SpB B w) (hb:Below B w w'):SpB B w':=fun w2 h2=>h w2 (hb.trans h2)
theorem Xq0 (a b:Nat):∀(l:List (Nat×Nat×Int)) (i:Nat),(∀x∈l,¬(a=x.1∧b=x.2.1))→Gu a b i l=none:=by
 intro l
 induction l with
 |nil=>intro i _;rfl
 |cons x l ih=>intro i h;rw[Gu,if_neg (h x (by simp)),ih _ (fun y hy=>h y (by simp[hy]))]
theorem Xw6 {w:World} {mb m a b:Nat} {k:Int} (h:w.heap[mb]? =some (.map (Qr m) m)) (hm:m<10) (hx:signL[m]? =some (a,b,k)) (hn:∀x∈signL.take m,¬(a=x.1∧b=x.2.1)):
  (Instr.mapUpdate 62 (.map (some mb)) (.agg #[.int .u8 (a:Int), .int .u8 (b:Int)]) (.agg (Zq k).toArray)).run Tryz.prog w= .ok () (setBlock w mb (.map (Qr (m+1)) (m+1))):=by
 have hu:=Tryz.underlying62
 have hlt:mb<w.heap.size:=Wy h
 have hg:(getObj mb).run Tryz.prog w= .ok (.map (Qr m) m) w:=by
  have h':=h
  rw[Array.getElem?_eq_getElem hlt] at h'
  simp[getObj,Sem.run,h',hlt]
 have hc:(Instr.checkKey false 10000 110 (.agg #[.int .u8 (a:Int), .int .u8 (b:Int)])).run Tryz.prog w= .ok () w:=by kernel_rfl
 have hk:(Instr.findKey 110 (.agg #[.int .u8 (a:Int), .int .u8 (b:Int)]) (Qr m).toList).run Tryz.prog w= .ok none w:=by
  have hn2:Instr.findNow (.struct (Tryz.prog.fieldsOf 110)) (.agg #[.int .u8 (a:Int), .int .u8 (b:Int)]) (Qr m).toList 0=none∨(Qr m).toList= []:=by
   unfold Qr
   cases hl:signL.take m with
   |nil=>exact .inr rfl
   |cons x l=>exact .inl rfl
  have hf:=Xig a b w (signL.take m) 0 0
  rw[Xq0 a b _ 0 hn] at hf
  have hs:Tryz.prog.underlying 110=some (.struct (Tryz.prog.fieldsOf 110)):=by kernel_rfl
  unfold Instr.findKey
  simp only[Sem.run_bind,run_underlying hs,Result.andThen_ok]
  rcases hn2 with hn2|hn2
  ·rw[hn2];exact hf
  ·rw[hn2];rfl
 have hso:∀o,(setObj mb o).run Tryz.prog w= .ok () (setBlock w mb o):=fun o=>by
  have h':=h
  rw[Array.getElem?_eq_getElem hlt] at h'
  simp[setObj,Sem.run,h',hlt,setBlock]
 have hpush:(Qr m).push ⟨.agg #[.int .u8 (a:Int), .int .u8 (b:Int)], .agg (Zq k).toArray,m⟩=Qr (m+1):=by
  rcases (show m=0∨m=1∨m=2∨m=3∨m=4∨m=5∨m=6∨m=7∨m=8∨m=9 by omega) with rfl|rfl|rfl|rfl|rfl|rfl|rfl|rfl|rfl|rfl<;>(simp[signL] at hx;obtain ⟨rfl,rfl,rfl⟩:=hx;rfl)
 unfold Instr.mapUpdate
 simp only[Sem.run_bind,run_underlying hu,Result.andThen_ok,hg,hc,hk,hso,hpush]
theorem asc {l:List UInt8} (h:∀c∈l,c.toNat<128):∀(j:Nat) c,(txt l).data.toList[j]? =some c→c.toNat<128:=fun j c hj=>by
 rw[Xz] at hj
 exact h c (List.mem_of_getElem? hj)
theorem Xw7 {J:Array Value} (hJ:jointC.toArray=J) {m:Nat} (hm:m<10):∃(kk:Int) (sg:ByteArray) (lv lf rg:Int) (a b:Nat) (tr:List UInt8),(∀W,(Instr.index 108 (.agg J) (.int .i64 (m:Int))).run Tryz.prog W= .ok (.agg #[.int .i64 kk, .string sg, .int .i64 lv, .int .i64 lf, .int .i64 rg]) W)∧(Zq kk).toArray= #[.int .i64 kk, .string sg, .int .i64 lv, .int .i64 lf, .int .i64 rg]∧Lib.trimSpace sg.data.toList=tr∧sg.size≤4∧(∀(j:Nat) c,sg.data.toList[j]? =some c→c.toNat<128)∧1≤tr.length∧tr.length≤2∧(∃x,(tr++ [0])[0]? =some x∧x.toNat=a)∧(∃x,(tr++ [0])[1]? =some x∧x.toNat=b)∧signL[m]? =some (a,b,kk)∧∀x∈signL.take m,¬(a=x.1∧b=x.2.1):=by
 rw[←hJ]
 rcases (show m=0∨m=1∨m=2∨m=3∨m=4∨m=5∨m=6∨m=7∨m=8∨m=9 by omega) with rfl|rfl|rfl|rfl|rfl|rfl|rfl|rfl|rfl|rfl
 ·exact ⟨6,txt (Zo 6),Xp 6,Zw 6,Yv 6,124,0,[124],Xzf,rfl,by decide+kernel,by decide,asc (by decide),by decide,by decide,⟨_,rfl,rfl⟩,⟨_,rfl,rfl⟩,rfl,by decide⟩
 ·exact ⟨7,txt (Zo 7),Xp 7,Zw 7,Yv 7,44,0,[44],Xzg,rfl,by decide+kernel,by decide,asc (by decide),by decide,by decide,⟨_,rfl,rfl⟩,⟨_,rfl,rfl⟩,rfl,by decide⟩
 ·exact ⟨21,txt (Zo 21),Xp 21,Zw 21,Yv 21,47,47,[47,47],Xzh,rfl,by decide+kernel,by decide,asc (by decide),by decide,by decide,⟨_,rfl,rfl⟩,⟨_,rfl,rfl⟩,rfl,by decide⟩
 ·exact ⟨17,txt (Zo 17),Xp 17,Zw 17,Yv 17,61,61,[61,61],Xzi,rfl,by decide+kernel,by decide,asc (by decide),by decide,by decide,⟨_,rfl,rfl⟩,⟨_,rfl,rfl⟩,rfl,by decide⟩
 ·exact ⟨18,txt (Zo 18),Xp 18,Zw 18,Yv 18,33,61,[33,61],Xzj,rfl,by decide+kernel,by decide,asc (by decide),by decide,by decide,⟨_,rfl,rfl⟩,⟨_,rfl,rfl⟩,rfl,by decide⟩
 ·exact ⟨19,txt (Zo 19),Xp 19,Zw 19,Yv 19,60,0,[60],Xzk,rfl,by decide+kernel,by decide,asc (by decide),by decide,by decide,⟨_,rfl,rfl⟩,⟨_,rfl,rfl⟩,rfl,by decide⟩
 ·exact ⟨20,txt (Zo 20),Xp 20,Zw 20,Yv 20,60,61,[60,61],Xzl,rfl,by decide+kernel,by decide,asc (by decide),by decide,by decide,⟨_,rfl,rfl⟩,⟨_,rfl,rfl⟩,rfl,by decide⟩
 ·exact ⟨15,txt (Zo 15),Xp 15,Zw 15,Yv 15,43,0,[43],Xzm,rfl,by decide+kernel,by decide,asc (by decide),by decide,by decide,⟨_,rfl,rfl⟩,⟨_,rfl,rfl⟩,rfl,by decide⟩
 ·exact ⟨16,txt (Zo 16),Xp 16,Zw 16,Yv 16,45,0,[45],Xzn,rfl,by decide+kernel,by decide,asc (by decide),by decide,by decide,⟨_,rfl,rfl⟩,⟨_,rfl,rfl⟩,rfl,by decide⟩
 ·exact ⟨23,txt (Zo 23),Xp 23,Zw 23,Yv 23,63,0,[63],Xzo,rfl,by decide+kernel,by decide,asc (by decide),by decide,by decide,⟨_,rfl,rfl⟩,⟨_,rfl,rfl⟩,rfl,by decide⟩

open Go.ChangeMaps (setBlock)
theorem Xh4 {w:World} {b:Nat} {o:Obj} (h:b<w.heap.size):(setBlock w b o).heap[b]? =some o:=by simp[setBlock,h]
theorem Xgp {w:World} {b B:Nat} {o:Obj} (h:B≤b):Below B w (setBlock w b o):=⟨rfl,rfl,rfl,by simp[setBlock],fun x hx=>by simp[setBlock,Array.getElem?_setIfInBounds];intro e;omega⟩
set_option maxRecDepth 100000 in
theorem Xgq (w:World) (hj:JtB w.heap.size w) (hsp:SpB w.heap.size w):
  Calls Tryz.prog 34 #[] w fun e w'=>e= .returned (.map (some w.heap.size))∧w'.heap[w.heap.size]? =some (.map (Qr 10) 10)∧Below w.heap.size w w':=by
 have HJT:=Xa (fun W hb=>hj W hb)
 have HSP:=Xa hsp
 clear hj hsp
 have hmm:= @run_makeMap Tryz.prog
 obtain ⟨W1,hW1⟩:∃W1,w.alloc (.map #[] 0)=W1:=⟨_,rfl⟩
 have hb1:Below w.heap.size w W1:=by rw[←hW1];exact (Below.refl _ _).alloc (Nat.le_refl _) _
 have hx1:W1.heap[w.heap.size]? =some (.map (Qr 0) 0):=by rw[←hW1];exact heap_alloc_new w _
 have HB1:=Xa hb1
 have HX1:=Xa hx1
 have hz1:w.heap.size<W1.heap.size:=by rw[←hW1];simp
 have HW1:=Xa hW1
 clear hb1 hx1 hW1
 go_enter Tryz.func34,Tryz.ntmps34
 go_upto_region 2 with fail
 (try rw[HW1.out])
 refine wp_region_lit ?_
 refine wpList_load_mid rfl 108 (.global 0) rfl 0 0 rfl jointC _ (HJT.out _ HB1.out) Xvi rfl Xvj ?_
 obtain ⟨J,hJ⟩:∃J,jointC.toArray=J:=⟨_,rfl⟩
 rw[hJ]
 have HJ:=Xa hJ
 clear hJ hmm
 go_wp2_with fail
 go_loopw [3,4,7] (fun _ _ i wr=>∃m:Nat,m≤10∧i= .int .i64 m∧wr.heap[w.heap.size]? =some (.map (Qr m) m)∧Below w.heap.size w wr) (fun _ _ i _=>10-(intOf i).toNat)
 case atStart=>exact ⟨0,by omega,rfl,HX1.out,HB1.out⟩
 case round=>
  obtain ⟨m,hm,rfl,hx,hb⟩:=hrel
  have HX:=Xa hx
  have HB:=Xa hb
  have zr:=hb.size
  have hxl:w.heap.size<wr.heap.size:=Wy hx
  clear hx hb
  rcases (show m=10∨m<10 by omega) with rfl|hlt
  ·go_wp2_with fail
   go_ret
   exact ⟨rfl,HX.out,HB.out⟩
  ·have hlt':(m:Int)<10:=by omega
   obtain ⟨kk,sg,lv,lf,rg,a,b,tr,hix,hjl,htr,hsz,hasc,hl1,hl2,⟨x0,hx0,hx0'⟩,⟨x1,hx1,hx1'⟩,hsl,hnot⟩:=Xw7 HJ.out hlt
   obtain ⟨W2,hW2⟩:∃W2,wr.alloc (.cells #[.int .i64 kk, .string sg, .int .i64 lv, .int .i64 lf, .int .i64 rg] 91)=W2:=⟨_,rfl⟩
   have hb2:Below wr.heap.size wr W2:=by rw[←hW2];exact (Below.refl _ _).alloc (Nat.le_refl _) _
   have hj2:W2.heap[wr.heap.size]? =some (.cells #[.int .i64 kk, .string sg, .int .i64 lv, .int .i64 lf, .int .i64 rg] 91 (0,0)):=by rw[←hW2];exact heap_alloc_new wr _
   have hz2:wr.heap.size<W2.heap.size:=by rw[←hW2];simp
   have HB2:=Xa (HB.out.trans (hb2.mono zr))
   have HX2:Hid (W2.heap[w.heap.size]? =_):=(hb2.block _ hxl).trans HX.out
   have HTS:=Xa (Tryz.strings_TrimSpace sg W2 (by omega) hasc (HSP.out W2 HB2.out))
   obtain ⟨T,hT⟩:∃T:ByteArray,(⟨(Lib.trimSpace sg.data.toList).toArray⟩:ByteArray)=T:=⟨_,rfl⟩
   have HTD:Hid (T=txt tr):=by rw[Hid,←hT,htr];rfl
   rw[hT] at HTS
   have hTs:T.size=tr.length:=by rw[HTD.out,Xo]
   have HTS':=Xa hTs
   have HJ2:=Xa hj2
   have y1:=cellAt hj2 (i:=1) rfl
   have HW2:=Xa hW2
   have HLW:=Xa hjl
   have HSL:=Xa hsl
   have HNOT:=Xa hnot
   have hT3:T.size≤2:=by omega
   obtain ⟨U,hU⟩:∃U,T++(⟨#[0]⟩:ByteArray)=U:=⟨_,rfl⟩
   have hUs:U.size=T.size+1:=by rw[←hU,ByteArray.size_append];rfl
   have hUd:U.data.toList=tr++ [0]:=by rw[←hU,HTD.out,show (⟨#[0]⟩:ByteArray)=txt [0] from rfl,Yo,Xz]
   have hU0:0<U.size:=by omega
   have hU1:1<U.size:=by omega
   have g0:U[0].toNat=a:=by
    have:=getK? hU0
    rw[hUd,hx0] at this
    simp at this
    rw[←this];exact hx0'
   have g1:U[1].toNat=b:=by
    have:=getK? hU1
    rw[hUd,hx1] at this
    simp at this
    rw[←this];exact hx1'
   have hU0':(0:Int)<(U.size:Int):=by omega
   have hU1':(1:Int)<(U.size:Int):=by omega
   have HUS:=Xa hUs
   clear hb2 hj2 hW2 hjl hsl hnot hx0 hx1 hx0' hx1' htr hasc hl1 hl2 hT hTs hUd hUs
   go_upto_region 5 with fail
   rw[HW2.out]
   go_upto_region 6 with (go_at_call 72;refine HTS.out.mono ?_;rintro e w3 ⟨rfl,hw3⟩)
   have hb3:Below W2.heap.size W2 w3:=by rw[hw3];exact Lib.bytesWorld_below _ _ _
   have hj3:w3.heap[wr.heap.size]? =some (.cells #[.int .i64 kk, .string sg, .int .i64 lv, .int .i64 lf, .int .i64 rg] 91 (0,0)):=(hb3.block _ hz2).trans HJ2.out
   have hm3:w3.heap[w.heap.size]? =some (.map (Qr m) m):=(hb3.block _ (by omega)).trans HX2.out
   have HB3:=Xa (HB2.out.trans (hb3.mono (by omega)))
   have u0:=cellAt hj3 (i:=0) rfl
   have u1:=cellAt hj3 (i:=1) rfl
   have u2:=cellAt hj3 (i:=2) rfl
   have u3:=cellAt hj3 (i:=3) rfl
   have u4:=cellAt hj3 (i:=4) rfl
   have hup:=Xw6 (w:=w3.drew) hm3 hlt HSL.out HNOT.out
   rw[HLW.out] at hup
   have HM3:=Xa hm3
   (try rw[←hw3])
   clear hw3 hb3 hj3 hm3 y1
   go_region
   all_goals
    have hz3:w.heap.size<w3.heap.size:=Wy HM3.out
    have HXN:Hid ((setBlock w3.drew w.heap.size (.map (Qr (m+1)) (m+1))).heap[w.heap.size]? =some (.map (Qr (m+1)) (m+1))):=Xh4 hz3
    have HBN:Hid (Below w.heap.size w (setBlock w3.drew w.heap.size (.map (Qr (m+1)) (m+1)))):=HB3.out.drew.trans (Xgp (Nat.le_refl _))
    go_wp2_with fail
    go_roundw
    case rel=>exact ⟨m+1,by omega,by go_num,HXN.out,HBN.out⟩
    case measure=>simp[intOf];omega
end Go.Proofs.YtehihemfepbmfaaGreatDoor
