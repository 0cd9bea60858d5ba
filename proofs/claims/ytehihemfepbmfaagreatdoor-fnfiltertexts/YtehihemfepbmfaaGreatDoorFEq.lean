import Derived.Test.YtehihemfepbmfaaGreatDoorImp1
import Derived.Test.YtehihemfepbmfaaGreatDoorImp2
import Derived.Test.YtehihemfepbmfaaGreatDoorVAt
import Derived.Test.YtehihemfepbmfaaGreatDoorEq
namespace Go.Proofs.YtehihemfepbmfaaGreatDoor
set_option linter.unusedSectionVars false
set_option maxHeartbeats 3200000
open Go.RowKit
set_option linter.unusedSimpArgs false
set_option linter.unusedVariables false
theorem Xpv:(Tryz.prog.info? 49).map (fun i=>(i.zero,i.size,i.bytes))=some (some (.slice none 0 0),1,24):=by kernel_rfl
def Vu (KV:Nat→Value) (k j:Nat):Value:=if j<k then KV j else .slice none 0 0
theorem Xe9 {w:World} {b t n k:Nat} {KV:Nat→Value} {v:Value} (h:w.rowIs b t n (Vu KV k)):(w.setCell ⟨b,k,none⟩ v).rowIs b t n (Vu (fun j=>if j=k then v else KV j) (k+1)):=by
 refine (h.set k _).congr fun i _=> ?_
 unfold Vu
 by_cases e:i=k
 ·subst e;rw[if_pos rfl,if_pos (by omega)];simp
 ·rw[if_neg e];by_cases g:i<k
  ·rw[if_pos g,if_pos (by omega)];simp[e]
  ·rw[if_neg g,if_neg (by omega)]
theorem Xs0 {vs:List VN} (h1:1≤vs.length) (h2:vs.length≤80) (h:∀k,k<vs.length→Yb (Xc vs k)=true):Xga vs=Jz (Y2 vs) vs.length 8:=by
 unfold Xga
 rw[show ((List.range vs.length).all fun i=>Yb (Xc vs i))=true from ?_]
 ·rw[show Xa7 vs=true by simp[Xa7,h1,h2],Bool.true_and,Bool.true_and,Jz]
  have hr:Uo vs=Vw (Y2 vs) vs.length 8:=by
   unfold Uo Vw
   cases tr (Y2 vs) (vs.length-1) with
   |none=>rfl
   | some p =>
    have:((p.2:Int)≤8)↔p.2≤8:=by omega
    simp only[this]
  rw[hr]
 ·rw[List.all_eq_true]
  exact fun k hk=>h k (List.mem_range.1 hk)
set_option maxRecDepth 100000 in
theorem Xag (B:Nat) (v:Value) (vs:List VN) (w:World) (h:NodesAt B w v vs) (hB:B≤w.heap.size):
  Calls Tryz.prog 100 #[v] w fun e w'=>e= .returned (.bool (okB vs))∧Below w.heap.size w w':=by
 have HE:Hid (Xga vs=okB vs):=Xpe vs
 obtain ⟨hlen,a,cap,rfl,hcell⟩:=h
 by_cases h1:vs.length<1
 ·have HO:Hid (okB vs=false):=Xb6 (Or.inl h1)
  have h1':(vs.length:Int)<1:=by omega
  go_enter Tryz.func100,Tryz.ntmps100
  go_wp2_with fail
  go_ret
  exact ⟨Xj HO.out.symm,Below.refl _ _⟩
 by_cases h2:80<vs.length
 ·have HO:Hid (okB vs=false):=Xb6 (Or.inr h2)
  have h1':¬(vs.length:Int)<1:=by omega
  have h2':(80:Int)<(vs.length:Int):=by omega
  go_enter Tryz.func100,Tryz.ntmps100
  go_wp2_with fail
  go_ret
  exact ⟨Xj HO.out.symm,Below.refl _ _⟩
 have h1':¬(vs.length:Int)<1:=by omega
 have h2':¬(80:Int)<(vs.length:Int):=by omega
 obtain ⟨b0,o0,rfl,hb0,hc⟩:=hcell (by omega)
 clear hcell
 have hmk:=run_make_row' (P:=Tryz.prog) 46 49 (.slice none 0 0) 24 Tryz.underlying46 Xpv rfl .i64 .i64 vs.length (by omega) (by omega)
 go_enter Tryz.func100,Tryz.ntmps100
 go_wp2_with fail
 clear hmk
 have hr0:(w.alloc (.cells (madeCells #[Value.slice none 0 0] vs.length) 49)).rowIs w.heap.size 49 vs.length (Vu (fun _=>undef) 0):=(World.rowIs_made w _ _ _).congr fun i _=>by simp[Vu]
 have hbz:Below w.heap.size w (w.alloc (.cells (madeCells #[Value.slice none 0 0] vs.length) 49)):=(Below.refl _ _).alloc (Nat.le_refl _) _
 go_loopw [19] (fun i wr=>∃(k:Nat) (KV:Nat→Value),k≤vs.length∧i= .int .i64 k∧wr.rowIs w.heap.size 49 vs.length (Vu KV k)∧(∀j,j<k→Yb (Xc vs j)=true∧IntsAt B w (KV j) (Y2 vs j))∧Below w.heap.size w wr) (fun i _=>vs.length-(intOf i).toNat)
 case atStart=>exact ⟨0,_,Nat.zero_le _,rfl,hr0,fun j hj=>by omega,hbz⟩
 case round =>
  obtain ⟨k,KV,hk,rfl,hrow,hall,hbel⟩:=hrel
  have HA:=Xb hall
  have HC:=Xb hc
  clear hall hr0 hbz hc
  by_cases hlt:k<vs.length
  ·obtain ⟨ka,ki,hn⟩:=HC.out k hlt
   have hn':=hn.below (hbel.mono hB) hb0
   have c0:=hn'.c0
   have c1:=hn'.c1
   have c2:=hn'.c2
   have c3:=hn'.c3
   have c4:=hn'.c4
   have hin:=Xb hn'.inn
   have hinw:=Xb hn.inn.kids
   have hsize:=hbel.size
   have hlt0:=hrow.lt
   obtain ⟨_,_,aK,cK,eK,_⟩:=hn'.inn.keys
   obtain ⟨_,_,aI,cI,eI,_⟩:=hn'.inn.kids
   subst eK eI
   have HR:=Xb hrow
   clear hn hn' hrow
   have hbx:Below w.heap.size w (wr.alloc (.cells #[.int .i64 (Xc vs k).kind, .int .i64 (Xc vs k).n, .string (Xc vs k).s, .slice aK (Xc vs k).keys.length cK, .slice aI (Xc vs k).kids.length cI] 102)):=hbel.alloc hsize _
   have hba:Below wr.heap.size wr (wr.alloc (.cells #[.int .i64 (Xc vs k).kind, .int .i64 (Xc vs k).n, .string (Xc vs k).s, .slice aK (Xc vs k).keys.length cK, .slice aI (Xc vs k).kids.length cI] 102)):=(Below.refl _ _).alloc (Nat.le_refl _) _
   have hinx:=Xb (hin.out.below (hba.mono (by omega)))
   by_cases hu:Q7 (Xc vs k)=true
   ·go_wp2_with fail
    refine (Xa5 B (Xc vs k) _ _ _ hinx.out).mono ?_
    rintro e w1 ⟨rfl,hb1⟩
    have hc1:∀o,w1.cell? ⟨wr.heap.size,o,none⟩=(wr.alloc (.cells #[.int .i64 (Xc vs k).kind, .int .i64 (Xc vs k).n, .string (Xc vs k).s, .slice aK (Xc vs k).keys.length cK, .slice aI (Xc vs k).kids.length cI] 102)).cell? ⟨wr.heap.size,o,none⟩:=fun o=>hb1.cell (p:=⟨wr.heap.size,o,none⟩) (by simp)
    have hz1:=hb1.size
    simp only[World.size_alloc] at hz1
    have hbx1:Below w.heap.size w w1:=hbx.trans (hb1.mono (by simp;omega))
    have hinx1:=Xb (hinx.out.below (hb1.mono (by simp;omega)))
    by_cases hm:Qu (Xc vs k)=true
    ·have HN:Hid (Yb (Xc vs k)=true):=by rw[Hid,Yb,hu,hm];rfl
     go_wp2_with fail
     refine (Xd3 B (Xc vs k) _ _ _ hinx1.out (by omega)).mono ?_
     rintro e w2 ⟨rfl,hb2⟩
     have hc2:∀o,w2.cell? ⟨wr.heap.size,o,none⟩=(wr.alloc (.cells #[.int .i64 (Xc vs k).kind, .int .i64 (Xc vs k).n, .string (Xc vs k).s, .slice aK (Xc vs k).keys.length cK, .slice aI (Xc vs k).kids.length cI] 102)).cell? ⟨wr.heap.size,o,none⟩:=fun o=>(hb2.cell (p:=⟨wr.heap.size,o,none⟩) (by show wr.heap.size<w1.heap.size;omega)).trans (hc1 o)
     have hbx2:Below w.heap.size w w2:=hbx1.trans (hb2.mono (by omega))
     have hrow2:w2.rowIs w.heap.size 49 vs.length (Vu KV k):=Vn (Vn (HR.out.alloc _) hb1 (by simp;omega)) hb2 (by omega)
     have hcs:=hrow2.cell hlt
     have hfs:=hrow2.frozen k
     have hnew:=Xb (Xe9 (v:= .slice aI (Xc vs k).kids.length cI) hrow2)
     have hbn:=Xb (hbx2.setCell (p:=⟨w.heap.size,k,none⟩) (Nat.le_refl _) (.slice aI (Xc vs k).kids.length cI))
     have HA2:Hid (∀j,j<k+1→Yb (Xc vs j)=true∧IntsAt B w (if j=k then .slice aI (Xc vs k).kids.length cI else KV j) (Y2 vs j)):=fun j hj=>by
      by_cases e:j=k
      ·subst e;rw[if_pos rfl];exact ⟨HN.out,hinw.out⟩
      ·rw[if_neg e];exact HA.out j (by omega)
     clear hrow2
     go_wp2_with fail
     go_roundw
     case rel=>exact ⟨k+1,_,by omega,by go_num,hnew.out,HA2.out,hbn.out⟩
     case measure=>simp[intOf];omega
    ·have hm':Qu (Xc vs k)=false:=by simpa using hm
     have HO:Hid (okB vs=false):=Xej hlt (by rw[Yb,hm',Bool.and_false])
     clear hm
     go_wp2_with fail
     refine (Xd3 B (Xc vs k) _ _ _ hinx1.out (by omega)).mono ?_
     rintro e w2 ⟨rfl,hb2⟩
     go_wp2_with fail
     go_ret
     exact ⟨Xj HO.out.symm,hbx1.trans (hb2.mono (by omega))⟩
   ·have hu':Q7 (Xc vs k)=false:=by simpa using hu
    have HO:Hid (okB vs=false):=Xej hlt (by rw[Yb,hu',Bool.false_and])
    clear hu
    go_wp2_with fail
    refine (Xa5 B (Xc vs k) _ _ _ hinx.out).mono ?_
    rintro e w1 ⟨rfl,hb1⟩
    go_wp2_with fail
    go_ret
    exact ⟨Xj HO.out.symm,hbx.trans (hb1.mono (by simp;omega))⟩
  ·obtain rfl:k=vs.length:=by omega
   have HO:Hid (okB vs=Jz (Y2 vs) vs.length 8):=HE.out.symm.trans (Xs0 (by omega) (by omega) (fun j hj=>(HA.out j hj).1))
   have hlt0:=hrow.lt
   have HR:=Xb hrow
   clear hrow
   go_wp2_with fail
   refine (Xb0 8 (w.heap.size+1) w.heap.size vs.length (Y2 vs) KV _ (by omega) (by omega) (by omega) (by omega) (fun i hi=>⟨?_, ?_⟩)).mono ?_
   ·rw[HR.out.cell hi,Vu,if_pos hi]
   ·exact ((HA.out i hi).2.below (hbel.mono hB)).wide (by omega)
   ·rintro e w1 ⟨rfl,hb1⟩
    go_wp2_with fail
    go_ret
    exact ⟨Xj HO.out.symm,hbel.trans (hb1.mono (by omega))⟩

set_option maxRecDepth 100000 in
theorem Xnw (B:Nat) (v:Value) (vs:List VN) (w:World) (h:NodesAt B w v vs) (hB:B≤w.heap.size) (hno:okB vs=false):
  Calls Tryz.prog 129 #[v] w fun e w'=>e= .returned (.tuple #[.nilIface, .bool false])∧Below w.heap.size w w':=by
 have HV:=Xb h
 obtain ⟨_,a,cap,rfl,_⟩:=h
 go_enter Tryz.func129,Tryz.ntmps129
 go_wp2_with fail
 refine (Xag B _ vs _ HV.out hB).mono ?_
 rintro e w1 ⟨rfl,hb1⟩
 go_wp2_with fail
 go_ret2
 exact ⟨rfl,hb1⟩
set_option maxRecDepth 100000 in
theorem Xk9 (B:Nat) (v:Value) (vs:List VN) (w:World) (h:NodesAt B w v vs) (hB:B≤w.heap.size) (hyes:okB vs=true):
  Calls Tryz.prog 129 #[v] w fun e w'=>∃lo t x,e= .returned (.tuple #[.iface t x, .bool true])∧w.heap.size≤lo∧lo<w'.heap.size∧ValIs lo w'.heap.size w' vs vs.length (vs.length-1) (.iface t x)∧Below w.heap.size w w':=by
 have HV:=Xb h
 obtain ⟨_,a,cap,rfl,_⟩:=h
 obtain ⟨⟨hn1,hn2⟩,hok,_,hkn⟩:=K2 hyes
 have HOK:=Xb hok
 have HKN:=Xb hkn
 clear hok hkn
 go_enter Tryz.func129,Tryz.ntmps129
 go_wp2_with fail
 refine (Xag B _ vs _ HV.out hB).mono ?_
 rintro e w1 ⟨rfl,hb1⟩
 have z1:=hb1.size
 go_wp2_with fail
 refine (Xju B _ vs _ (HV.out.below (hb1.mono hB)) (by omega) hn1 hn2 HOK.out HKN.out).mono ?_
 rintro e w2 ⟨VV,rfl,hrow,hvals,hb2⟩
 have z2:=hb2.size
 obtain ⟨t,x,hx⟩:=(hvals (vs.length-1) (by omega)).iface
 have hc:w2.cell? ⟨w1.heap.size,vs.length-1,none⟩=some (.iface t x):=by rw[hrow.cell (by omega),hx]
 have hlt:=hrow.lt
 have hval:=hvals (vs.length-1) (by omega)
 rw[hx] at hval
 have HVL:=Xb hval
 have p0:((vs.length:Int)-1).toNat=vs.length-1:=by omega
 clear hrow hvals hx hval
 go_wp2_with fail
 go_ret2
 exact ⟨w1.heap.size,t,x,rfl,by omega,hlt,ValIs.more (by omega) HVL.out,hb1.trans (hb2.mono z1)⟩

structure FN where
 kind:Int
 name:ByteArray
 place:Int
 cst:List VN
 names:List ByteArray
 kids:List Int
def FN.zero:FN:=⟨0,ByteArray.empty,0,[],[],[]⟩
def Xi (fs:List FN) (i:Nat):FN:=fs.getD i FN.zero
def Yx (fs:List FN) (i:Nat):List Int:=(Xi fs i).kids
def Yt (c:Nat):Bool:=(decide (97≤c)&&decide (c≤122))||((decide (65≤c)&&decide (c≤90))||decide (c=95))
def Zk (c:Nat):Bool:=decide (48≤c)&&decide (c≤57)
def Yq (s:ByteArray) (j:Nat):Nat:=(s.data.getD j 0).toNat
def Ya (s:ByteArray):Bool:=decide (0<s.size)&&decide (s.size≤60)&&Yt (Yq s 0)&&(List.range s.size).all fun j=>Yt (Yq s j)||Zk (Yq s j)
theorem Ut {s:ByteArray} {j:Nat} (h:j<s.size):s[j].toNat=Yq s j:=by
 unfold Yq
 have h':j<s.data.size:=h
 rw[show s.data.getD j 0=s.data[j] by unfold Array.getD;exact dif_pos h']
 rfl
theorem Xn0 {s:ByteArray} (h:Ya s=true):Qi s=true:=by
 unfold Ya at h
 simp only[Bool.and_eq_true,decide_eq_true_eq,List.all_eq_true,List.mem_range] at h
 unfold Qi
 rw[Bool.and_eq_true,List.all_eq_true]
 refine ⟨by simp[h.1.1.2],fun c hc=> ?_⟩
 obtain ⟨j,hj,rfl⟩:=List.getElem_of_mem hc
 have hj':j<s.size:=by simpa using hj
 have:=h.2 j hj'
 rw[←Ut hj'] at this
 rw[decide_eq_true_eq]
 show s[j].toNat≤127
 unfold Yt Zk at this
 simp only[Bool.or_eq_true,Bool.and_eq_true,decide_eq_true_eq] at this
 omega
def Q4 (l:List ByteArray) (j:Nat):Bool:=Ya (Xt l j)&&(decide (j=0)||Xa6 (Xt l (j-1)) (Xt l j))
def Gt (l:List ByteArray):Bool:=(List.range l.length).all (Q4 l)
def Z2 (l:List ByteArray):Bool:=decide (l.length≤5)&&Gt l
theorem Xhk (l:List ByteArray):Gt l=(((List.range l.length).all fun j=>Ya (Xt l j))&&Kt l):=by
 rw[Bool.eq_iff_iff]
 unfold Gt Kt
 simp only[Bool.and_eq_true,List.all_eq_true,List.mem_range]
 constructor
 ·intro h
  refine ⟨fun j hj=> ?_,fun j hj=> ?_⟩
  ·have:=h j hj
   unfold Q4 at this
   rw[Bool.and_eq_true] at this
   exact this.1
  ·have:=h j hj
   unfold Q4 at this
   rw[Bool.and_eq_true] at this
   unfold Qy
   rw[Xn0 this.1,Bool.true_and]
   exact this.2
 ·rintro ⟨h1,h2⟩ j hj
  have:=h2 j hj
  unfold Qy at this
  rw[Bool.and_eq_true] at this
  unfold Q4
  rw[h1 j hj,Bool.true_and]
  exact this.2
theorem Xde {l:List ByteArray} {k:Nat} (hk:k<l.length) (h:Q4 l k=false):Gt l=false:=by
 unfold Gt
 rw[List.all_eq_false]
 exact ⟨k,List.mem_range.2 hk,by simp[h]⟩
theorem Xd7 {l:List ByteArray} (h:∀j,j<l.length→Q4 l j=true):Gt l=true:=by
 unfold Gt
 rw[List.all_eq_true]
 exact fun j hj=>h j (List.mem_range.1 hj)
def Q9 (v:List VN):Bool:=decide (v.length=1)&&okB v&&decide ((Xc v 0).kind≠5)&&decide ((Xc v 0).kind≠6)
def Gf (x:FN):Bool:=
 !(decide (x.kind≠2)&&decide (x.name.toList≠ []))&& !(decide (x.kind≠3)&&decide (x.place≠0))&&
 !(decide (x.kind≠5)&&decide (0<x.cst.length))&& !(decide (x.kind≠9)&&decide (0<x.names.length))
def Ja (x:FN):Bool:=
 if x.kind=2 then Ya x.name
 else if x.kind=3 then decide (-80≤x.place)&&decide (x.place≤80)
 else if x.kind=5 then Q9 x.cst
 else if x.kind=9 then Z2 x.names
 else true
def kidsN (k:Int):Int:=
 if k=6∨k=7∨k=15∨k=16∨k=17∨k=18∨k=19∨k=20∨k=21 then 2
 else if k=10∨k=23 then 1
 else if k=22 then 3
 else if k=8∨k=9 then-1
 else 0
def Jk (x:FN):Bool:=
 if x.kind=8 then decide (x.kids.length≤1)
 else if x.kind=9 then decide (x.kids.length=x.names.length)
 else decide (1≤x.kind)&&decide (x.kind≤23)&&decide ((x.kids.length:Int)=kidsN x.kind)
def Xn (x:FN):Bool:=Gf x&&Ja x&&Jk x
def Jl (fs:List FN) (i:Nat):Bool:=(Yx fs i).all fun k=>decide (0≤k)&&decide (k≤(i:Int)-1)
def V1 (fs:List FN):Bool:=decide (1≤fs.length)&&decide (fs.length≤40)
def okF (fs:List FN):Bool:=V1 fs&&((List.range fs.length).all fun i=>Xn (Xi fs i)&&Jl fs i)&&Vw (Yx fs) fs.length 12
def Xes (fs:List FN):Bool:=V1 fs&&((List.range fs.length).all fun i=>Xn (Xi fs i))&&Jz (Yx fs) fs.length 12
theorem Xjn (fs:List FN):Xes fs=okF fs:=by
 rw[Bool.eq_iff_iff]
 unfold Xes okF Jz
 simp only[Bool.and_eq_true,List.all_eq_true,List.mem_range]
 constructor
 ·rintro ⟨⟨h1,h2⟩,h3,h4⟩
  refine ⟨⟨h1,fun i hi=>⟨h2 i hi, ?_⟩⟩,h4⟩
  obtain ⟨p,hp⟩:=Option.isSome_iff_exists.1 (h3 i hi)
  unfold Jl
  simp only[List.all_eq_true,Bool.and_eq_true,decide_eq_true_eq]
  exact Xf9 hp
 ·rintro ⟨⟨h1,h2⟩,h3⟩
  refine ⟨⟨h1,fun i hi=>(h2 i hi).1⟩,fun i hi=> ?_,h3⟩
  unfold Vw at h3
  cases hr:tr (Yx fs) (fs.length-1) with
  |none=>rw[hr] at h3;cases h3
  | some p =>
   rw[hr] at h3
   simp at h3
   obtain ⟨q,hq⟩:=Xlv _ _ hr i (by omega) (by omega)
   rw[hq]
   rfl
theorem Xcc {fs:List FN} (h:fs.length<1∨40<fs.length):okF fs=false:=by
 have:V1 fs=false:=by simp[V1];omega
 simp[okF,this]
theorem Xcd {fs:List FN} {k:Nat} (hk:k<fs.length) (h:Xn (Xi fs k)=false):okF fs=false:=by
 unfold okF
 rw[show ((List.range fs.length).all fun i=>Xn (Xi fs i)&&Jl fs i)=false from ?_,Bool.and_false,Bool.false_and]
 rw[List.all_eq_false]
 exact ⟨k,List.mem_range.2 hk,by simp[h]⟩
theorem Xw8 {fs:List FN} {k j:Nat} (hk:k<fs.length) (hj:j<(Xi fs k).kids.length) (h:inB (Xk (Xi fs k).kids j) 0 ((k:Int)-1)=false):okF fs=false:=by
 unfold okF
 rw[show ((List.range fs.length).all fun i=>Xn (Xi fs i)&&Jl fs i)=false from ?_,Bool.and_false,Bool.false_and]
 rw[List.all_eq_false]
 refine ⟨k,List.mem_range.2 hk, ?_⟩
 have:Jl fs k=false:=by
  unfold Jl
  rw[List.all_eq_false]
  refine ⟨Xk (Xi fs k).kids j, ?_,by simpa [inB] using h⟩
  unfold Yx
  rw[Qj hj]
  exact List.getElem_mem _
 simp[this]
theorem Xn1 {fs:List FN} {k:Nat} (h:∀j,j<(Xi fs k).kids.length→inB (Xk (Xi fs k).kids j) 0 ((k:Int)-1)=true):Jl fs k=true:=by
 unfold Jl
 rw[List.all_eq_true]
 intro x hx
 obtain ⟨j,hj,rfl⟩:=List.getElem_of_mem hx
 have hj':j<(Xi fs k).kids.length:=hj
 have:=h j hj'
 rw[Qj hj'] at this
 exact this
theorem Xy6 {fs:List FN} (h1:1≤fs.length) (h2:fs.length≤40) (h:∀k,k<fs.length→Xn (Xi fs k)=true∧Jl fs k=true):okF fs=Vw (Yx fs) fs.length 12:=by
 unfold okF
 rw[show ((List.range fs.length).all fun i=>Xn (Xi fs i)&&Jl fs i)=true from ?_]
 ·simp[V1,h1,h2]
 ·rw[List.all_eq_true]
  intro k hk
  have:=h k (List.mem_range.1 hk)
  simp[this.1,this.2]
theorem Xt2 {fs:List FN} (h1:1≤fs.length) (h2:fs.length≤40) (h:∀k,k<fs.length→Xn (Xi fs k)=true):Xes fs=Jz (Yx fs) fs.length 12:=by
 unfold Xes
 rw[show ((List.range fs.length).all fun i=>Xn (Xi fs i))=true from ?_]
 ·rw[show V1 fs=true by simp[V1,h1,h2],Bool.true_and,Bool.true_and]
 ·rw[List.all_eq_true]
  exact fun k hk=>h k (List.mem_range.1 hk)
structure FNodeIn (B:Nat) (w:World) (x:FN) (kc kn ki:Value):Prop where
 cst:NodesAt B w kc x.cst
 names:StrsAt B w kn x.names
 kids:IntsAt B w ki x.kids
 size:x.name.size≤140737488355328
 klo: -9223372036854775808≤x.kind
 khi:x.kind≤9223372036854775807
 nlo: -9223372036854775808≤x.place
 nhi:x.place≤9223372036854775807
structure FNodeAt (B:Nat) (w:World) (b o:Nat) (x:FN) (kc kn ki:Value):Prop where
 c0:w.cell? ⟨b,o,none⟩=some (.int .i64 x.kind)
 c1:w.cell? ⟨b,o+1,none⟩=some (.string x.name)
 c2:w.cell? ⟨b,o+2,none⟩=some (.int .i64 x.place)
 c3:w.cell? ⟨b,o+3,none⟩=some kc
 c4:w.cell? ⟨b,o+4,none⟩=some kn
 c5:w.cell? ⟨b,o+5,none⟩=some ki
 inn:FNodeIn B w x kc kn ki
def FNodesAt (B:Nat) (w:World) (v:Value) (fs:List FN):Prop:=
 fs.length≤1048576∧∃a cap,v= .slice a fs.length cap∧(0<fs.length→∃b o,a=some ⟨b,o,none⟩∧b<B∧∀i,i<fs.length→∃kc kn ki,FNodeAt B w b (o+i *6) (Xi fs i) kc kn ki)
theorem FNodeIn.below {B:Nat} {w w':World} {x:FN} {kc kn ki:Value} (h:FNodeIn B w x kc kn ki) (hb:Below B w w'):FNodeIn B w' x kc kn ki:=
 {h with cst:=h.cst.below hb,names:=h.names.below hb,kids:=h.kids.below hb}
theorem FNodeAt.below {B:Nat} {w w':World} {b o:Nat} {x:FN} {kc kn ki:Value} (h:FNodeAt B w b o x kc kn ki) (hb:Below B w w') (hB:b<B):FNodeAt B w' b o x kc kn ki:=
 ⟨(Xd hb hB).trans h.c0,(Xd hb hB).trans h.c1,(Xd hb hB).trans h.c2,(Xd hb hB).trans h.c3,(Xd hb hB).trans h.c4,(Xd hb hB).trans h.c5,h.inn.below hb⟩
theorem FNodesAt.below {B:Nat} {w w':World} {v:Value} {fs:List FN} (h:FNodesAt B w v fs) (hb:Below B w w'):FNodesAt B w' v fs:=by
 obtain ⟨h1,a,cap,e,h3⟩:=h
 refine ⟨h1,a,cap,e,fun hl=> ?_⟩
 obtain ⟨b,o,ea,hbB,hc⟩:=h3 hl
 refine ⟨b,o,ea,hbB,fun i hi=> ?_⟩
 obtain ⟨kc,kn,ki,hn⟩:=hc i hi
 exact ⟨kc,kn,ki,hn.below hb hbB⟩
theorem FNodeIn.wide {B B':Nat} {w:World} {x:FN} {kc kn ki:Value} (h:FNodeIn B w x kc kn ki) (hb:B≤B'):FNodeIn B' w x kc kn ki:=
 {h with cst:=h.cst.wide hb,names:=h.names.wide hb,kids:=h.kids.wide hb}
theorem FNodesAt.wide {B B':Nat} {w:World} {v:Value} {fs:List FN} (h:FNodesAt B w v fs) (hb:B≤B'):FNodesAt B' w v fs:=by
 obtain ⟨h1,a,cap,e,h3⟩:=h
 refine ⟨h1,a,cap,e,fun hl=> ?_⟩
 obtain ⟨b,o,ea,hbB,hc⟩:=h3 hl
 refine ⟨b,o,ea,by omega,fun i hi=> ?_⟩
 obtain ⟨kc,kn,ki,hn⟩:=hc i hi
 exact ⟨kc,kn,ki,hn.c0,hn.c1,hn.c2,hn.c3,hn.c4,hn.c5,hn.inn.wide hb⟩

end Go.Proofs.YtehihemfepbmfaaGreatDoor
