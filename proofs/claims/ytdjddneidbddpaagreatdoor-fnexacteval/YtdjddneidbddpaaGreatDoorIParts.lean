import Derived.Test.YtdjddneidbddpaaGreatDoorImp1
import Derived.Test.YtdjddneidbddpaaGreatDoorImp2
import Derived.Test.YtdjddneidbddpaaGreatDoorSSort
import Derived.Test.YtdjddneidbddpaaGreatDoorLowN
import Derived.Test.YtdjddneidbddpaaGreatDoorEqS2
import Derived.Test.YtdjddneidbddpaaGreatDoorEq
namespace Go.Proofs.YtdjddneidbddpaaGreatDoor
set_option linter.unusedSectionVars false
set_option maxHeartbeats 3200000
open Go.RowKit
set_option linter.unusedSimpArgs false
set_option linter.unusedVariables false
theorem Xx8:(Tryz.prog.info? 73).map (fun i=>(i.zero,i.size,i.bytes))=some (some (.slice none 0 0),1,24):=by kernel_rfl
def Vu (KV:Nat→Value) (k j:Nat):Value:=if j<k then KV j else .slice none 0 0
theorem Xi6 {w:World} {b t n k:Nat} {KV:Nat→Value} {v:Value} (h:w.rowIs b t n (Vu KV k)):(w.setCell ⟨b,k,none⟩ v).rowIs b t n (Vu (fun j=>if j=k then v else KV j) (k+1)):=by
 refine (h.set k _).congr fun i _=> ?_
 unfold Vu
 by_cases e:i=k
 ·subst e;rw[if_pos rfl,if_pos (by omega)];simp
 ·rw[if_neg e];by_cases g:i<k
  ·rw[if_pos g,if_pos (by omega)];simp[e]
  ·rw[if_neg g,if_neg (by omega)]
theorem X1o {vs:List VN} (h1:1≤vs.length) (h2:vs.length≤80) (h:∀k,k<vs.length→X9 (Xb vs k)=true):Xfm vs=Kj (Yj vs) vs.length 8:=by
 unfold Xfm
 rw[show ((List.range vs.length).all fun i=>X9 (Xb vs i))=true from ?_]
 ·rw[show Ub vs=true by simp[Ub,h1,h2],Bool.true_and,Bool.true_and,Kj]
  have hr:Jy vs=Ge (Yj vs) vs.length 8:=by
   unfold Jy Ge
   cases tr (Yj vs) (vs.length-1) with
   |none=>rfl
   | some p =>
    have:((p.2:Int)≤8)↔p.2≤8:=by omega
    simp only[this]
  rw[hr]
 ·rw[List.all_eq_true]
  exact fun k hk=>h k (List.mem_range.1 hk)
set_option maxRecDepth 100000 in
theorem Wi (B:Nat) (v:Value) (vs:List VN) (w:World) (h:NodesAt B w v vs) (hB:B≤w.heap.size):
  Calls Tryz.prog 10 #[v] w fun e w'=>e= .returned (.bool (okB vs))∧Below w.heap.size w w':=by
 have HE:Hid (Xfm vs=okB vs):=Xi0 vs
 obtain ⟨hlen,a,cap,rfl,hcell⟩:=h
 by_cases h1:vs.length<1
 ·have HO:Hid (okB vs=false):=Xdo (Or.inl h1)
  have h1':(vs.length:Int)<1:=by omega
  go_enter Tryz.func10,Tryz.ntmps10
  go_wp2_with fail
  go_ret
  exact ⟨Xn HO.out.symm,Below.refl _ _⟩
 by_cases h2:80<vs.length
 ·have HO:Hid (okB vs=false):=Xdo (Or.inr h2)
  have h1':¬(vs.length:Int)<1:=by omega
  have h2':(80:Int)<(vs.length:Int):=by omega
  go_enter Tryz.func10,Tryz.ntmps10
  go_wp2_with fail
  go_ret
  exact ⟨Xn HO.out.symm,Below.refl _ _⟩
 have h1':¬(vs.length:Int)<1:=by omega
 have h2':¬(80:Int)<(vs.length:Int):=by omega
 obtain ⟨b0,o0,rfl,hb0,hc⟩:=hcell (by omega)
 clear hcell
 have hmk:=run_make_row' (P:=Tryz.prog) 71 73 (.slice none 0 0) 24 Tryz.underlying71 Xx8 rfl .i64 .i64 vs.length (by omega) (by omega)
 go_enter Tryz.func10,Tryz.ntmps10
 go_wp2_with fail
 clear hmk
 have hr0:(w.alloc (.cells (madeCells #[Value.slice none 0 0] vs.length) 73)).rowIs w.heap.size 73 vs.length (Vu (fun _=>undef) 0):=(World.rowIs_made w _ _ _).congr fun i _=>by simp[Vu]
 have hbz:Below w.heap.size w (w.alloc (.cells (madeCells #[Value.slice none 0 0] vs.length) 73)):=(Below.refl _ _).alloc (Nat.le_refl _) _
 go_loopw [19] (fun i wr=>∃(k:Nat) (KV:Nat→Value),k≤vs.length∧i= .int .i64 k∧wr.rowIs w.heap.size 73 vs.length (Vu KV k)∧(∀j,j<k→X9 (Xb vs j)=true∧IntsAt B w (KV j) (Yj vs j))∧Below w.heap.size w wr) (fun i _=>vs.length-(intOf i).toNat)
 case atStart=>exact ⟨0,_,Nat.zero_le _,rfl,hr0,fun j hj=>by omega,hbz⟩
 case round =>
  obtain ⟨k,KV,hk,rfl,hrow,hall,hbel⟩:=hrel
  have HA:=Xa hall
  have HC:=Xa hc
  clear hall hr0 hbz hc
  by_cases hlt:k<vs.length
  ·obtain ⟨ka,ki,hn⟩:=HC.out k hlt
   have hn':=hn.below (hbel.mono hB) hb0
   have c0:=hn'.c0
   have c1:=hn'.c1
   have c2:=hn'.c2
   have c3:=hn'.c3
   have c4:=hn'.c4
   have hin:=Xa hn'.inn
   have hinw:=Xa hn.inn.kids
   have hsize:=hbel.size
   have hlt0:=hrow.lt
   obtain ⟨_,_,aK,cK,eK,_⟩:=hn'.inn.keys
   obtain ⟨_,_,aI,cI,eI,_⟩:=hn'.inn.kids
   subst eK eI
   have HR:=Xa hrow
   clear hn hn' hrow
   have hbx:Below w.heap.size w (wr.alloc (.cells #[.int .i64 (Xb vs k).kind, .int .i64 (Xb vs k).n, .string (Xb vs k).s, .slice aK (Xb vs k).keys.length cK, .slice aI (Xb vs k).kids.length cI] 75)):=hbel.alloc hsize _
   have hba:Below wr.heap.size wr (wr.alloc (.cells #[.int .i64 (Xb vs k).kind, .int .i64 (Xb vs k).n, .string (Xb vs k).s, .slice aK (Xb vs k).keys.length cK, .slice aI (Xb vs k).kids.length cI] 75)):=(Below.refl _ _).alloc (Nat.le_refl _) _
   have hinx:=Xa (hin.out.below (hba.mono (by omega)))
   by_cases hu:Yv (Xb vs k)=true
   ·go_wp2_with fail
    refine (Xcn B (Xb vs k) _ _ _ hinx.out).mono ?_
    rintro e w1 ⟨rfl,hb1⟩
    have hc1:∀o,w1.cell? ⟨wr.heap.size,o,none⟩=(wr.alloc (.cells #[.int .i64 (Xb vs k).kind, .int .i64 (Xb vs k).n, .string (Xb vs k).s, .slice aK (Xb vs k).keys.length cK, .slice aI (Xb vs k).kids.length cI] 75)).cell? ⟨wr.heap.size,o,none⟩:=fun o=>hb1.cell (p:=⟨wr.heap.size,o,none⟩) (by simp)
    have hz1:=hb1.size
    simp only[World.size_alloc] at hz1
    have hbx1:Below w.heap.size w w1:=hbx.trans (hb1.mono (by simp;omega))
    have hinx1:=Xa (hinx.out.below (hb1.mono (by simp;omega)))
    by_cases hm:Zk (Xb vs k)=true
    ·have HN:Hid (X9 (Xb vs k)=true):=by rw[Hid,X9,hu,hm];rfl
     go_wp2_with fail
     refine (Xg0 B (Xb vs k) _ _ _ hinx1.out (by omega)).mono ?_
     rintro e w2 ⟨rfl,hb2⟩
     have hc2:∀o,w2.cell? ⟨wr.heap.size,o,none⟩=(wr.alloc (.cells #[.int .i64 (Xb vs k).kind, .int .i64 (Xb vs k).n, .string (Xb vs k).s, .slice aK (Xb vs k).keys.length cK, .slice aI (Xb vs k).kids.length cI] 75)).cell? ⟨wr.heap.size,o,none⟩:=fun o=>(hb2.cell (p:=⟨wr.heap.size,o,none⟩) (by show wr.heap.size<w1.heap.size;omega)).trans (hc1 o)
     have hbx2:Below w.heap.size w w2:=hbx1.trans (hb2.mono (by omega))
     have hrow2:w2.rowIs w.heap.size 73 vs.length (Vu KV k):=Y3 (Y3 (HR.out.alloc _) hb1 (by simp;omega)) hb2 (by omega)
     have hcs:=hrow2.cell hlt
     have hfs:=hrow2.frozen k
     have hnew:=Xa (Xi6 (v:= .slice aI (Xb vs k).kids.length cI) hrow2)
     have hbn:=Xa (hbx2.setCell (p:=⟨w.heap.size,k,none⟩) (Nat.le_refl _) (.slice aI (Xb vs k).kids.length cI))
     have HA2:Hid (∀j,j<k+1→X9 (Xb vs j)=true∧IntsAt B w (if j=k then .slice aI (Xb vs k).kids.length cI else KV j) (Yj vs j)):=fun j hj=>by
      by_cases e:j=k
      ·subst e;rw[if_pos rfl];exact ⟨HN.out,hinw.out⟩
      ·rw[if_neg e];exact HA.out j (by omega)
     clear hrow2
     go_wp2_with fail
     go_roundw
     case rel=>exact ⟨k+1,_,by omega,by go_num,hnew.out,HA2.out,hbn.out⟩
     case measure=>simp[intOf];omega
    ·have hm':Zk (Xb vs k)=false:=by simpa using hm
     have HO:Hid (okB vs=false):=Xhl hlt (by rw[X9,hm',Bool.and_false])
     clear hm
     go_wp2_with fail
     refine (Xg0 B (Xb vs k) _ _ _ hinx1.out (by omega)).mono ?_
     rintro e w2 ⟨rfl,hb2⟩
     go_wp2_with fail
     go_ret
     exact ⟨Xn HO.out.symm,hbx1.trans (hb2.mono (by omega))⟩
   ·have hu':Yv (Xb vs k)=false:=by simpa using hu
    have HO:Hid (okB vs=false):=Xhl hlt (by rw[X9,hu',Bool.false_and])
    clear hu
    go_wp2_with fail
    refine (Xcn B (Xb vs k) _ _ _ hinx.out).mono ?_
    rintro e w1 ⟨rfl,hb1⟩
    go_wp2_with fail
    go_ret
    exact ⟨Xn HO.out.symm,hbx.trans (hb1.mono (by simp;omega))⟩
  ·obtain rfl:k=vs.length:=by omega
   have HO:Hid (okB vs=Kj (Yj vs) vs.length 8):=HE.out.symm.trans (X1o (by omega) (by omega) (fun j hj=>(HA.out j hj).1))
   have hlt0:=hrow.lt
   have HR:=Xa hrow
   clear hrow
   go_wp2_with fail
   refine (Xdk 8 (w.heap.size+1) w.heap.size vs.length (Yj vs) KV _ (by omega) (by omega) (by omega) (by omega) (fun i hi=>⟨?_, ?_⟩)).mono ?_
   ·rw[HR.out.cell hi,Vu,if_pos hi]
   ·exact ((HA.out i hi).2.below (hbel.mono hB)).wide (by omega)
   ·rintro e w1 ⟨rfl,hb1⟩
    go_wp2_with fail
    go_ret
    exact ⟨Xn HO.out.symm,hbel.trans (hb1.mono (by omega))⟩

set_option maxRecDepth 100000 in
theorem Xvp (B:Nat) (v:Value) (vs:List VN) (w:World) (h:NodesAt B w v vs) (hB:B≤w.heap.size) (hno:okB vs=false):
  Calls Tryz.prog 27 #[v] w fun e w'=>e= .returned (.tuple #[.nilIface, .bool false])∧Below w.heap.size w w':=by
 have HV:=Xa h
 obtain ⟨_,a,cap,rfl,_⟩:=h
 go_enter Tryz.func27,Tryz.ntmps27
 go_wp2_with fail
 refine (Wi B _ vs _ HV.out hB).mono ?_
 rintro e w1 ⟨rfl,hb1⟩
 go_wp2_with fail
 go_ret2
 exact ⟨rfl,hb1⟩
set_option maxRecDepth 100000 in
theorem Xsb (B:Nat) (v:Value) (vs:List VN) (w:World) (h:NodesAt B w v vs) (hB:B≤w.heap.size) (hyes:okB vs=true):
  Calls Tryz.prog 27 #[v] w fun e w'=>∃lo t x,e= .returned (.tuple #[.iface t x, .bool true])∧w.heap.size≤lo∧lo<w'.heap.size∧ValIs lo w'.heap.size w' vs vs.length (vs.length-1) (.iface t x)∧Below w.heap.size w w':=by
 have HV:=Xa h
 obtain ⟨_,a,cap,rfl,_⟩:=h
 obtain ⟨⟨hn1,hn2⟩,hok,_,hkn⟩:=Xp hyes
 have HOK:=Xa hok
 have HKN:=Xa hkn
 clear hok hkn
 go_enter Tryz.func27,Tryz.ntmps27
 go_wp2_with fail
 refine (Wi B _ vs _ HV.out hB).mono ?_
 rintro e w1 ⟨rfl,hb1⟩
 have z1:=hb1.size
 go_wp2_with fail
 refine (Xf0 B _ vs _ (HV.out.below (hb1.mono hB)) (by omega) hn1 hn2 HOK.out HKN.out).mono ?_
 rintro e w2 ⟨VV,rfl,hrow,hvals,hb2⟩
 have z2:=hb2.size
 obtain ⟨t,x,hx⟩:=(hvals (vs.length-1) (by omega)).iface
 have hc:w2.cell? ⟨w1.heap.size,vs.length-1,none⟩=some (.iface t x):=by rw[hrow.cell (by omega),hx]
 have hlt:=hrow.lt
 have hval:=hvals (vs.length-1) (by omega)
 rw[hx] at hval
 have HVL:=Xa hval
 have p0:((vs.length:Int)-1).toNat=vs.length-1:=by omega
 clear hrow hvals hx hval
 go_wp2_with fail
 go_ret2
 exact ⟨w1.heap.size,t,x,rfl,by omega,hlt,ValIs.more (by omega) HVL.out,hb1.trans (hb2.mono z1)⟩

theorem TreeAt.iface {B:Nat} {w:World} {f:Nat} {t:VT} {v:Value} (h:TreeAt B w f t v):∃ty x,v= .iface ty x:=by
 cases f with
 |zero=>exact h.elim
 | succ f =>
  obtain ⟨kind,n,s,keys,kids⟩:=t
  rcases h with ⟨_,_,_,_,_,rfl⟩|⟨_,_,_,_,rfl⟩|⟨_,_,_,_,rfl⟩|⟨_,_,_,_,rfl⟩|⟨_,_,_,_,it,rfl,_⟩|⟨_,_,_,ks,it,rfl,_⟩<;>exact ⟨_,_,rfl⟩
def Xgg (ns:List VN):List VN:=if okB ns=true then ns else []
set_option maxRecDepth 100000 in
theorem Xc9 (f:Nat) (t:VT) (x:Value) (ns:List VN) (w:World) (ht:TreeAt w.heap.size w f t x) (hns:Yi f t 0=ns) (hn:ns.length≤100000) (hf:∀i,i<ns.length→Fits (Xb ns i)):
  Calls Tryz.prog 173 #[x] w fun e w'=>∃r base KV IV,e= .returned (.tuple #[r, .bool (okB ns)])∧w.heap.size≤base∧base≤w'.heap.size∧Nest base w' r (Xgg ns) KV IV∧Below w.heap.size w w':=by
 obtain ⟨ty,xv,rfl⟩:=ht.iface
 have HT:=Xa ht
 have HNS:=Xa hns
 have HF:=Xa hf
 have HRN:Hid (Xgg ns=if okB ns=true then ns else []):=rfl
 clear ht hns hf
 go_enter Tryz.func173,Tryz.ntmps173
 go_wp2_with fail
 refine (Xex w.heap.size w.heap.size (Nat.le_refl _) f t (.iface ty xv) (.slice none 0 0) [] (fun _=>undef) (fun _=>undef) w (Nest.nil _ _ _ _) HT.out (Nat.le_refl _) (by rw[List.length_nil,HNS.out];omega)).mono ?_
 rintro e w1 ⟨r,K,I,rfl,hl1⟩
 have hn1:Nest w.heap.size w1 r ns K I:=by have:=hl1.1;rw[List.nil_append,List.length_nil,HNS.out] at this;exact this
 have hb1:Below w.heap.size w w1:=(Below.refl _ _).grown hl1.2.1 (Nat.le_refl _) (fun k hk=>by simp[Value.ownBlock] at hk)
 have z1:=hb1.size
 have HN1:=Xa hn1
 have HB1:=Xa hb1
 obtain ⟨ar,cr,er⟩:=Xj hn1.row
 obtain ⟨N,hN⟩:∃N,ns.length=N:=⟨_,rfl⟩
 rw[hN] at er
 subst er
 clear hn1 hb1 hN hl1
 go_wp2_with fail
 refine (Wi w1.heap.size _ ns _ (HN1.out.nodes (by omega) HF.out) (Nat.le_refl _)).mono ?_
 rintro e w2 ⟨rfl,hb2⟩
 have z2:=hb2.size
 have HN2:=Xa (HN1.out.below hb2)
 have HB2:=Xa (HB1.out.trans (hb2.mono z1))
 clear hb2
 cases ok1:okB ns
 ·go_wp2_with fail
  go_ret2
  exact ⟨.slice none 0 0,w.heap.size,fun _=>undef,fun _=>undef,by rw[ok1];rfl,Nat.le_refl _,by omega,by rw[HRN.out,ok1];exact Nest.nil _ _ _ _,HB2.out⟩
 ·go_wp2_with fail
  go_ret2
  exact ⟨.slice ar N cr,w.heap.size,K,I,by rw[ok1];rfl,Nat.le_refl _,by omega,by rw[HRN.out,ok1];exact HN2.out,HB2.out⟩

structure FN where
 kind:Int
 name:ByteArray
 place:Int
 cst:List VN
 names:List ByteArray
 kids:List Int
def FN.zero:FN:=⟨0,ByteArray.empty,0,[],[],[]⟩
def Xr (fs:List FN) (i:Nat):FN:=fs.getD i FN.zero
def Q7 (fs:List FN) (i:Nat):List Int:=(Xr fs i).kids
def Jv (c:Nat):Bool:=(decide (97≤c)&&decide (c≤122))||((decide (65≤c)&&decide (c≤90))||decide (c=95))
def Vh (c:Nat):Bool:=decide (48≤c)&&decide (c≤57)
def Zh (s:ByteArray) (j:Nat):Nat:=(s.data.getD j 0).toNat
def Y8 (s:ByteArray):Bool:=decide (0<s.size)&&decide (s.size≤60)&&Jv (Zh s 0)&&(List.range s.size).all fun j=>Jv (Zh s j)||Vh (Zh s j)
theorem U7 {s:ByteArray} {j:Nat} (h:j<s.size):s[j].toNat=Zh s j:=by
 unfold Zh
 have h':j<s.data.size:=h
 rw[show s.data.getD j 0=s.data[j] by unfold Array.getD;exact dif_pos h']
 rfl
theorem Xuf {s:ByteArray} (h:Y8 s=true):Z7 s=true:=by
 unfold Y8 at h
 simp only[Bool.and_eq_true,decide_eq_true_eq,List.all_eq_true,List.mem_range] at h
 unfold Z7
 rw[Bool.and_eq_true,List.all_eq_true]
 refine ⟨by simp[h.1.1.2],fun c hc=> ?_⟩
 obtain ⟨j,hj,rfl⟩:=List.getElem_of_mem hc
 have hj':j<s.size:=by simpa using hj
 have:=h.2 j hj'
 rw[←U7 hj'] at this
 rw[decide_eq_true_eq]
 show s[j].toNat≤127
 unfold Jv Vh at this
 simp only[Bool.or_eq_true,Bool.and_eq_true,decide_eq_true_eq] at this
 omega
def Jc (l:List ByteArray) (j:Nat):Bool:=Y8 (Xh l j)&&(decide (j=0)||Y9 (Xh l (j-1)) (Xh l j))
def Xau (l:List ByteArray):Bool:=(List.range l.length).all (Jc l)
def Q9 (l:List ByteArray):Bool:=decide (l.length≤5)&&Xau l
theorem Xwz (l:List ByteArray):Xau l=(((List.range l.length).all fun j=>Y8 (Xh l j))&&Q0 l):=by
 rw[Bool.eq_iff_iff]
 unfold Xau Q0
 simp only[Bool.and_eq_true,List.all_eq_true,List.mem_range]
 constructor
 ·intro h
  refine ⟨fun j hj=> ?_,fun j hj=> ?_⟩
  ·have:=h j hj
   unfold Jc at this
   rw[Bool.and_eq_true] at this
   exact this.1
  ·have:=h j hj
   unfold Jc at this
   rw[Bool.and_eq_true] at this
   unfold Ql
   rw[Xuf this.1,Bool.true_and]
   exact this.2
 ·rintro ⟨h1,h2⟩ j hj
  have:=h2 j hj
  unfold Ql at this
  rw[Bool.and_eq_true] at this
  unfold Jc
  rw[h1 j hj,Bool.true_and]
  exact this.2
theorem Xfh {l:List ByteArray} {k:Nat} (hk:k<l.length) (h:Jc l k=false):Xau l=false:=by
 unfold Xau
 rw[List.all_eq_false]
 exact ⟨k,List.mem_range.2 hk,by simp[h]⟩
theorem Xg5 {l:List ByteArray} (h:∀j,j<l.length→Jc l j=true):Xau l=true:=by
 unfold Xau
 rw[List.all_eq_true]
 exact fun j hj=>h j (List.mem_range.1 hj)
def Vt (v:List VN):Bool:=decide (v.length=1)&&okB v&&decide ((Xb v 0).kind≠5)&&decide ((Xb v 0).kind≠6)
def U8 (x:FN):Bool:=
 !(decide (x.kind≠2)&&decide (x.name.toList≠ []))&& !(decide (x.kind≠3)&&decide (x.place≠0))&&
 !(decide (x.kind≠5)&&decide (0<x.cst.length))&& !(decide (x.kind≠9)&&decide (0<x.names.length))
def Ka (x:FN):Bool:=
 if x.kind=2 then Y8 x.name
 else if x.kind=3 then decide (-80≤x.place)&&decide (x.place≤80)
 else if x.kind=5 then Vt x.cst
 else if x.kind=9 then Q9 x.names
 else true
def kidsN (k:Int):Int:=
 if k=6∨k=7∨k=15∨k=16∨k=17∨k=18∨k=19∨k=20∨k=21 then 2
 else if k=10∨k=23 then 1
 else if k=22 then 3
 else if k=8∨k=9 then-1
 else 0
def Jw (x:FN):Bool:=
 if x.kind=8 then decide (x.kids.length≤1)
 else if x.kind=9 then decide (x.kids.length=x.names.length)
 else decide (1≤x.kind)&&decide (x.kind≤23)&&decide ((x.kids.length:Int)=kidsN x.kind)
def Xz (x:FN):Bool:=U8 x&&Ka x&&Jw x
def J6 (fs:List FN) (i:Nat):Bool:=(Q7 fs i).all fun k=>decide (0≤k)&&decide (k≤(i:Int)-1)
def U9 (fs:List FN):Bool:=decide (1≤fs.length)&&decide (fs.length≤40)
def okF (fs:List FN):Bool:=U9 fs&&((List.range fs.length).all fun i=>Xz (Xr fs i)&&J6 fs i)&&Ge (Q7 fs) fs.length 12
def Xn8 (fs:List FN):Bool:=U9 fs&&((List.range fs.length).all fun i=>Xz (Xr fs i))&&Kj (Q7 fs) fs.length 12
theorem X4n (fs:List FN):Xn8 fs=okF fs:=by
 rw[Bool.eq_iff_iff]
 unfold Xn8 okF Kj
 simp only[Bool.and_eq_true,List.all_eq_true,List.mem_range]
 constructor
 ·rintro ⟨⟨h1,h2⟩,h3,h4⟩
  refine ⟨⟨h1,fun i hi=>⟨h2 i hi, ?_⟩⟩,h4⟩
  obtain ⟨p,hp⟩:=Option.isSome_iff_exists.1 (h3 i hi)
  unfold J6
  simp only[List.all_eq_true,Bool.and_eq_true,decide_eq_true_eq]
  exact Xs0 hp
 ·rintro ⟨⟨h1,h2⟩,h3⟩
  refine ⟨⟨h1,fun i hi=>(h2 i hi).1⟩,fun i hi=> ?_,h3⟩
  unfold Ge at h3
  cases hr:tr (Q7 fs) (fs.length-1) with
  |none=>rw[hr] at h3;cases h3
  | some p =>
   rw[hr] at h3
   simp at h3
   obtain ⟨q,hq⟩:=Xkk _ _ hr i (by omega) (by omega)
   rw[hq]
   rfl
theorem Xd5 {fs:List FN} (h:fs.length<1∨40<fs.length):okF fs=false:=by
 have:U9 fs=false:=by simp[U9];omega
 simp[okF,this]
theorem Xd6 {fs:List FN} {k:Nat} (hk:k<fs.length) (h:Xz (Xr fs k)=false):okF fs=false:=by
 unfold okF
 rw[show ((List.range fs.length).all fun i=>Xz (Xr fs i)&&J6 fs i)=false from ?_,Bool.and_false,Bool.false_and]
 rw[List.all_eq_false]
 exact ⟨k,List.mem_range.2 hk,by simp[h]⟩
theorem X24 {fs:List FN} {k j:Nat} (hk:k<fs.length) (hj:j<(Xr fs k).kids.length) (h:inB (Xm (Xr fs k).kids j) 0 ((k:Int)-1)=false):okF fs=false:=by
 unfold okF
 rw[show ((List.range fs.length).all fun i=>Xz (Xr fs i)&&J6 fs i)=false from ?_,Bool.and_false,Bool.false_and]
 rw[List.all_eq_false]
 refine ⟨k,List.mem_range.2 hk, ?_⟩
 have:J6 fs k=false:=by
  unfold J6
  rw[List.all_eq_false]
  refine ⟨Xm (Xr fs k).kids j, ?_,by simpa [inB] using h⟩
  unfold Q7
  rw[Zd hj]
  exact List.getElem_mem _
 simp[this]
theorem Xug {fs:List FN} {k:Nat} (h:∀j,j<(Xr fs k).kids.length→inB (Xm (Xr fs k).kids j) 0 ((k:Int)-1)=true):J6 fs k=true:=by
 unfold J6
 rw[List.all_eq_true]
 intro x hx
 obtain ⟨j,hj,rfl⟩:=List.getElem_of_mem hx
 have hj':j<(Xr fs k).kids.length:=hj
 have:=h j hj'
 rw[Zd hj'] at this
 exact this
theorem X4o {fs:List FN} (h1:1≤fs.length) (h2:fs.length≤40) (h:∀k,k<fs.length→Xz (Xr fs k)=true∧J6 fs k=true):okF fs=Ge (Q7 fs) fs.length 12:=by
 unfold okF
 rw[show ((List.range fs.length).all fun i=>Xz (Xr fs i)&&J6 fs i)=true from ?_]
 ·simp[U9,h1,h2]
 ·rw[List.all_eq_true]
  intro k hk
  have:=h k (List.mem_range.1 hk)
  simp[this.1,this.2]
theorem X0a {fs:List FN} (h1:1≤fs.length) (h2:fs.length≤40) (h:∀k,k<fs.length→Xz (Xr fs k)=true):Xn8 fs=Kj (Q7 fs) fs.length 12:=by
 unfold Xn8
 rw[show ((List.range fs.length).all fun i=>Xz (Xr fs i))=true from ?_]
 ·rw[show U9 fs=true by simp[U9,h1,h2],Bool.true_and,Bool.true_and]
 ·rw[List.all_eq_true]
  exact fun k hk=>h k (List.mem_range.1 hk)
structure FNodeIn (B:Nat) (w:World) (x:FN) (kc kn ki:Value):Prop where
 cst:NodesAt B w kc x.cst
 names:StrsAt B w kn x.names
 kids:IntsAt B w ki x.kids
 size:x.name.size≤140737488355328
 klo: -9223372036854775808≤x.kind
 khi:x.kind≤9223372036854775807
 nlo: -9223372036854775808≤x.place
 nhi:x.place≤9223372036854775807
structure FNodeAt (B:Nat) (w:World) (b o:Nat) (x:FN) (kc kn ki:Value):Prop where
 c0:w.cell? ⟨b,o,none⟩=some (.int .i64 x.kind)
 c1:w.cell? ⟨b,o+1,none⟩=some (.string x.name)
 c2:w.cell? ⟨b,o+2,none⟩=some (.int .i64 x.place)
 c3:w.cell? ⟨b,o+3,none⟩=some kc
 c4:w.cell? ⟨b,o+4,none⟩=some kn
 c5:w.cell? ⟨b,o+5,none⟩=some ki
 inn:FNodeIn B w x kc kn ki
def FNodesAt (B:Nat) (w:World) (v:Value) (fs:List FN):Prop:=
 fs.length≤1048576∧∃a cap,v= .slice a fs.length cap∧(0<fs.length→∃b o,a=some ⟨b,o,none⟩∧b<B∧∀i,i<fs.length→∃kc kn ki,FNodeAt B w b (o+i *6) (Xr fs i) kc kn ki)
theorem FNodeIn.below {B:Nat} {w w':World} {x:FN} {kc kn ki:Value} (h:FNodeIn B w x kc kn ki) (hb:Below B w w'):FNodeIn B w' x kc kn ki:=
 {h with cst:=h.cst.below hb,names:=h.names.below hb,kids:=h.kids.below hb}
theorem FNodeAt.below {B:Nat} {w w':World} {b o:Nat} {x:FN} {kc kn ki:Value} (h:FNodeAt B w b o x kc kn ki) (hb:Below B w w') (hB:b<B):FNodeAt B w' b o x kc kn ki:=
 ⟨(Xc hb hB).trans h.c0,(Xc hb hB).trans h.c1,(Xc hb hB).trans h.c2,(Xc hb hB).trans h.c3,(Xc hb hB).trans h.c4,(Xc hb hB).trans h.c5,h.inn.below hb⟩
theorem FNodesAt.below {B:Nat} {w w':World} {v:Value} {fs:List FN} (h:FNodesAt B w v fs) (hb:Below B w w'):FNodesAt B w' v fs:=by
 obtain ⟨h1,a,cap,e,h3⟩:=h
 refine ⟨h1,a,cap,e,fun hl=> ?_⟩
 obtain ⟨b,o,ea,hbB,hc⟩:=h3 hl
 refine ⟨b,o,ea,hbB,fun i hi=> ?_⟩
 obtain ⟨kc,kn,ki,hn⟩:=hc i hi
 exact ⟨kc,kn,ki,hn.below hb hbB⟩
theorem FNodeIn.wide {B B':Nat} {w:World} {x:FN} {kc kn ki:Value} (h:FNodeIn B w x kc kn ki) (hb:B≤B'):FNodeIn B' w x kc kn ki:=
 {h with cst:=h.cst.wide hb,names:=h.names.wide hb,kids:=h.kids.wide hb}
theorem FNodesAt.wide {B B':Nat} {w:World} {v:Value} {fs:List FN} (h:FNodesAt B w v fs) (hb:B≤B'):FNodesAt B' w v fs:=by
 obtain ⟨h1,a,cap,e,h3⟩:=h
 refine ⟨h1,a,cap,e,fun hl=> ?_⟩
 obtain ⟨b,o,ea,hbB,hc⟩:=h3 hl
 refine ⟨b,o,ea,by omega,fun i hi=> ?_⟩
 obtain ⟨kc,kn,ki,hn⟩:=hc i hi
 exact ⟨kc,kn,ki,hn.c0,hn.c1,hn.c2,hn.c3,hn.c4,hn.c5,hn.inn.wide hb⟩

theorem OwnAt.other {w:World} {b:Nat} {vs:List VN} {KB KI:Nat→Nat} (h:OwnAt w b vs KB KI) {c o:Nat} (hc:c<b) (v:Value):OwnAt (w.setCell ⟨c,o,none⟩ v) b vs KB KI:=
 ⟨h.row.setOther (Z5 (by omega)) _,⟨h.to.lo,fun i hi=>(h.to.rk i hi).setOther (Z5 (by have:=h.to.lo i hi;omega)) _,fun i hi=>(h.to.ri i hi).setOther (Z5 (by have:=h.to.lo i hi;omega)) _,h.to.mono⟩⟩
structure OwnF (w:World) (x:FN) (lo bc:Nat) (KB KI:Nat→Nat) (bk bi:Nat):Prop where
 lc:lo≤bc
 lk:lo≤bk
 li:lo≤bi
 own:OwnAt w bc x.cst KB KI
 rk:w.rowIs bk 9 x.names.length (fun j=> .string (Xh x.names j))
 ri:w.rowIs bi 2 x.kids.length (fun j=> .int .i64 (Xm x.kids j))
theorem OwnF.below {w w':World} {x:FN} {lo bc:Nat} {KB KI:Nat→Nat} {bk bi:Nat} (h:OwnF w x lo bc KB KI bk bi) (hb:Below w.heap.size w w'):OwnF w' x lo bc KB KI bk bi:=
 ⟨h.lc,h.lk,h.li,h.own.below hb,Y3 h.rk hb h.rk.lt,Y3 h.ri hb h.ri.lt⟩
theorem OwnF.other {w:World} {x:FN} {lo bc:Nat} {KB KI:Nat→Nat} {bk bi c o:Nat} (h:OwnF w x lo bc KB KI bk bi) (hc:c<lo) (v:Value):OwnF (w.setCell ⟨c,o,none⟩ v) x lo bc KB KI bk bi:=
 ⟨h.lc,h.lk,h.li,h.own.other (by have:=h.lc;omega) v,h.rk.setOther (Z5 (by have:=h.lk;omega)) _,h.ri.setOther (Z5 (by have:=h.li;omega)) _⟩
theorem OwnF.lower {w:World} {x:FN} {lo lo' bc:Nat} {KB KI:Nat→Nat} {bk bi:Nat} (h:OwnF w x lo bc KB KI bk bi) (hl:lo'≤lo):OwnF w x lo' bc KB KI bk bi:=
 ⟨by have:=h.lc;omega,by have:=h.lk;omega,by have:=h.li;omega,h.own,h.rk,h.ri⟩
def sl (b n:Nat):Value:= .slice (some ⟨b,0,none⟩) n n
theorem OwnF.inn {w:World} {x:FN} {lo bc:Nat} {KB KI:Nat→Nat} {bk bi:Nat} (h:OwnF w x lo bc KB KI bk bi) {B0:Nat} {w0:World} {kc kn ki:Value} (h0:FNodeIn B0 w0 x kc kn ki):FNodeIn w.heap.size w x (sl bc x.cst.length) (sl bk x.names.length) (sl bi x.kids.length):=
 ⟨h.own.nodes h0.cst.1 h0.cst.fits,Xsl h.rk h0.names.1 h0.names.2.1 _ h.rk.lt,Xsm h.ri h0.kids.1 h0.kids.2.1 _ h.ri.lt,h0.size,h0.klo,h0.khi,h0.nlo,h0.nhi⟩
set_option maxRecDepth 100000 in
theorem Xrg (B:Nat) (x:FN) (kc kn ki:Value) (w:World) (h:FNodeIn B w x kc kn ki) (hB:B≤w.heap.size):
  Calls Tryz.prog 43 #[.agg #[.int .i64 x.kind, .string x.name, .int .i64 x.place,kc,kn,ki]] w fun e w'=>∃(bc:Nat) (KB KI:Nat→Nat) (bk bi:Nat),
   e= .returned (.agg #[.int .i64 x.kind, .string x.name, .int .i64 x.place, .slice (some ⟨bc,0,none⟩) x.cst.length x.cst.length, .slice (some ⟨bk,0,none⟩) x.names.length x.names.length, .slice (some ⟨bi,0,none⟩) x.kids.length x.kids.length])∧
   OwnF w' x w.heap.size bc KB KI bk bi∧Below w.heap.size w w':=by
 have H:=Xa h
 obtain ⟨_,a0,c0,e0,_⟩:=h.cst
 obtain ⟨_,_,a1,c1,e1,_⟩:=h.names
 obtain ⟨_,_,a2,c2,e2,_⟩:=h.kids
 subst e0 e1 e2
 clear h
 have hbA:∀o1 o2 o3:Obj,Below w.heap.size w (((w.alloc o1).alloc o2).alloc o3):=fun o1 o2 o3=>(((Below.refl _ _).alloc (Nat.le_refl _) _).alloc (by simp) _).alloc (by simp;omega) _
 go_enter Tryz.func43,Tryz.ntmps43
 go_wp2_with fail
 refine (Kw B _ x.cst _ (H.out.cst.below ((hbA _ _ _).mono hB)) (by simp;omega)).mono ?_
 rintro e w1 ⟨KB,KI,rfl,ho1,hb1⟩
 obtain ⟨hc1,hf1⟩:=Xco hb1
 have hz1:=hb1.size
 have hB1:Below w.heap.size w w1:=(hbA _ _ _).trans (hb1.mono (by simp;omega))
 simp only[World.size_alloc] at hc1 hf1 hz1 ho1
 have hlt1:=ho1.row.lt
 have HO1:=Xa ho1
 have HB1:=Xa hB1
 clear ho1 hB1 hb1
 have y0:w.heap.size<w.heap.size+1+1+1:=by omega
 have y1:w.heap.size+1<w.heap.size+1+1+1:=by omega
 have y2:w.heap.size+1+1<w.heap.size+1+1+1:=by omega
 go_wp2_with fail
 refine (Xa6 B _ x.names _ (H.out.names.below ((HB1.out.setCell (by simp;omega) _).mono hB)) (by simp;omega)).mono ?_
 rintro e w2 ⟨rfl,hrow2,hb2⟩
 obtain ⟨hc2,hf2⟩:=Xco hb2
 have hz2:=hb2.size
 have hB2:Below w.heap.size w w2:=(HB1.out.setCell (by simp;omega) _).trans (hb2.mono (by simp;omega))
 have hO2:=(HO1.out.other (c:=w.heap.size+1+1) (by omega) _).below hb2
 simp only[World.size_setCell] at hc2 hf2 hz2 hrow2
 have hlt2:=hrow2.lt
 have HO2:=Xa hO2
 have HB2:=Xa hB2
 have HR2:=Xa hrow2
 clear hO2 hB2 hb2 hrow2
 have y3:w.heap.size<w1.heap.size:=by omega
 have y4:w.heap.size+1<w1.heap.size:=by omega
 have y5:w.heap.size+1+1<w1.heap.size:=by omega
 go_wp2_with fail
 refine (Xb2 B _ x.kids _ (H.out.kids.below ((HB2.out.setCell (by simp;omega) _).mono hB)) (by simp;omega)).mono ?_
 rintro e w3 ⟨rfl,hrow3,hb3⟩
 obtain ⟨hc3,hf3⟩:=Xco hb3
 have hz3:=hb3.size
 have hB3:Below w.heap.size w w3:=(HB2.out.setCell (by simp;omega) _).trans (hb3.mono (by simp;omega))
 have hO3:=(HO2.out.other (c:=w.heap.size+1+1) (by omega) _).below hb3
 have hR2:=Y3 (HR2.out.setOther (Z5 (show w1.heap.size≠w.heap.size+1+1 by omega)) _) hb3 (by simp;omega)
 simp only[World.size_setCell] at hc3 hf3 hz3 hrow3
 have hlt3:=hrow3.lt
 have HOF:Hid (OwnF w3 x (w.heap.size+1+1+1) (w.heap.size+1+1+1) KB KI w1.heap.size w2.heap.size):=⟨by omega,by omega,by omega,hO3,hR2,hrow3⟩
 have HB3:=Xa hB3
 clear hO3 hB3 hb3 hR2 hrow3
 have y6:w.heap.size<w2.heap.size:=by omega
 have y7:w.heap.size+1<w2.heap.size:=by omega
 have y8:w.heap.size+1+1<w2.heap.size:=by omega
 go_wp2_with fail
 refine bodyPost_ret (v:= .agg #[.int .i64 x.kind, .string x.name, .int .i64 x.place, .slice (some ⟨w.heap.size+1+1+1,0,none⟩) x.cst.length x.cst.length, .slice (some ⟨w1.heap.size,0,none⟩) x.names.length x.names.length, .slice (some ⟨w2.heap.size,0,none⟩) x.kids.length x.kids.length]) (by simp[results,Tryz.results43,go_sem,hc3,hc2,hc1,y1,y4,y7]) rfl ⟨w.heap.size+1+1+1,KB,KI,w1.heap.size,w2.heap.size,rfl, ?_, ?_⟩
 ·refine OwnF.lower (lo:=w.heap.size+1+1+1) ?_ (by omega)
  refine OwnF.other ?_ (by omega) _
  refine OwnF.other ?_ (by omega) _
  refine OwnF.other ?_ (by omega) _
  refine OwnF.other ?_ (by omega) _
  refine OwnF.other ?_ (by omega) _
  refine OwnF.other ?_ (by omega) _
  refine OwnF.other ?_ (by omega) _
  exact HOF.out
 ·refine Below.setCell (Below.setCell (Below.setCell (Below.setCell (Below.setCell (Below.setCell (Below.setCell HB3.out ?_ _) ?_ _) ?_ _) ?_ _) ?_ _) ?_ _) ?_ _<;>simp<;>omega

def zeroFNode:Value:= .agg #[.int .i64 0, .string ByteArray.empty, .int .i64 0, .slice none 0 0, .slice none 0 0, .slice none 0 0]
theorem Xyv:(Tryz.prog.info? 84).map (fun i=>(i.zero,i.size,i.bytes))=some (some zeroFNode,6,104):=by kernel_rfl
def Qp (n:Nat):Array Value:=madeCells zeroFNode.cells (n *6)
theorem Xcw (n:Nat):(Qp n).size=n *6:=size_madeCells _ _
theorem Xcx (n:Nat) (hb:104 *n≤281474976710656) (w:World):
  (Instr.makeSlice 24 (.int .i64 (n:Int)) (.int .i64 (n:Int))).run Tryz.prog w= .ok (.slice (some ⟨w.heap.size,0,none⟩) n n) (w.alloc (.cells (Qp n) 84)):=by
 obtain ⟨i,hi,hzz⟩:=Option.map_eq_some_iff.1 Xyv
 simp only[Prod.mk.injEq] at hzz
 obtain ⟨hz,hs,hby⟩:=hzz
 have hr:=run_make (P:=Tryz.prog) w 24 84 i zeroFNode Tryz.underlying24 hi hz .i64 .i64 n n (by omega) (Int.le_refl _) (by rw[hby];omega) (by omega)
 simp only[Int.toNat_natCast,hs] at hr
 exact hr
structure FBq where
 bc:Nat
 kb:Nat→Nat
 ki:Nat→Nat
 bk:Nat
 bi:Nat
def Jz (fs:List FN) (Q:Nat→FBq) (j:Nat):Value:=
 if j%6=0 then .int .i64 (Xr fs (j/6)).kind
 else if j%6=1 then .string (Xr fs (j/6)).name
 else if j%6=2 then .int .i64 (Xr fs (j/6)).place
 else if j%6=3 then .slice (some ⟨(Q (j/6)).bc,0,none⟩) (Xr fs (j/6)).cst.length (Xr fs (j/6)).cst.length
 else if j%6=4 then .slice (some ⟨(Q (j/6)).bk,0,none⟩) (Xr fs (j/6)).names.length (Xr fs (j/6)).names.length
 else .slice (some ⟨(Q (j/6)).bi,0,none⟩) (Xr fs (j/6)).kids.length (Xr fs (j/6)).kids.length
theorem Xpx (fs:List FN) (Q:Nat→FBq) (i:Nat):Jz fs Q (i *6)= .int .i64 (Xr fs i).kind:=by
 unfold Jz
 rw[if_pos (by omega),show i *6/6=i by omega]
theorem Xpy (fs:List FN) (Q:Nat→FBq) (i:Nat):Jz fs Q (i *6+1)= .string (Xr fs i).name:=by
 unfold Jz
 rw[if_neg (by omega),if_pos (by omega),show (i *6+1)/6=i by omega]
theorem Xpz (fs:List FN) (Q:Nat→FBq) (i:Nat):Jz fs Q (i *6+2)= .int .i64 (Xr fs i).place:=by
 unfold Jz
 rw[if_neg (by omega),if_neg (by omega),if_pos (by omega),show (i *6+2)/6=i by omega]
theorem Xjf (fs:List FN) (Q:Nat→FBq) (i:Nat):Jz fs Q (i *6+3)= .slice (some ⟨(Q i).bc,0,none⟩) (Xr fs i).cst.length (Xr fs i).cst.length:=by
 unfold Jz
 rw[if_neg (by omega),if_neg (by omega),if_neg (by omega),if_pos (by omega),show (i *6+3)/6=i by omega]
theorem Xjg (fs:List FN) (Q:Nat→FBq) (i:Nat):Jz fs Q (i *6+4)= .slice (some ⟨(Q i).bk,0,none⟩) (Xr fs i).names.length (Xr fs i).names.length:=by
 unfold Jz
 rw[if_neg (by omega),if_neg (by omega),if_neg (by omega),if_neg (by omega),if_pos (by omega),show (i *6+4)/6=i by omega]
theorem Xjh (fs:List FN) (Q:Nat→FBq) (i:Nat):Jz fs Q (i *6+5)= .slice (some ⟨(Q i).bi,0,none⟩) (Xr fs i).kids.length (Xr fs i).kids.length:=by
 unfold Jz
 rw[if_neg (by omega),if_neg (by omega),if_neg (by omega),if_neg (by omega),if_neg (by omega),show (i *6+5)/6=i by omega]
def Qb (fs:List FN) (Q:Nat→FBq) (z:Nat→Value) (k j:Nat):Value:=if j<k *6 then Jz fs Q j else z j
def Xkr (Q:Nat→FBq) (k:Nat) (q:FBq) (i:Nat):FBq:=if i=k then q else Q i
theorem Xa2 (Q:Nat→FBq) (k:Nat) (q:FBq):Xkr Q k q k=q:=if_pos rfl
theorem Xeh (Q:Nat→FBq) {k i:Nat} (q:FBq) (h:i≠k):Xkr Q k q i=Q i:=if_neg h
theorem Xyw {fs:List FN} {Q:Nat→FBq} {k j:Nat} {q:FBq} (h:j<k *6):Jz fs (Xkr Q k q) j=Jz fs Q j:=by
 unfold Jz
 simp only[Xeh Q q (show j/6≠k by omega)]
theorem Xji {w:World} {b t m k:Nat} {fs:List FN} {Q:Nat→FBq} {z:Nat→Value} (q:FBq) (h:w.rowIs b t m (Qb fs Q z k)):
  ((((((w.setCell ⟨b, k * 6, none⟩ (.int .i64 (Xr fs k).kind)).setCell ⟨b, k * 6 + 1, none⟩ (.string (Xr fs k).name)).setCell ⟨b, k * 6 + 2, none⟩ (.int .i64 (Xr fs k).place)).setCell ⟨b, k * 6 + 3, none⟩
   (.slice (some ⟨q.bc,0,none⟩) (Xr fs k).cst.length (Xr fs k).cst.length)).setCell ⟨b,k *6+4,none⟩ (.slice (some ⟨q.bk,0,none⟩) (Xr fs k).names.length (Xr fs k).names.length)).setCell ⟨b,k *6+5,none⟩ (.slice (some ⟨q.bi,0,none⟩) (Xr fs k).kids.length (Xr fs k).kids.length)).rowIs b t m
   (Qb fs (Xkr Q k q) z (k+1)):=by
 refine ((((((h.set (k *6) _).set (k *6+1) _).set (k *6+2) _).set (k *6+3) _).set (k *6+4) _).set (k *6+5) _).congr fun j _=> ?_
 by_cases e5:j=k *6+5
 ·subst e5
  rw[if_pos rfl,Qb,if_pos (by omega),Xjh,Xa2]
 rw[if_neg e5]
 by_cases e4:j=k *6+4
 ·subst e4
  rw[if_pos rfl,Qb,if_pos (by omega),Xjg,Xa2]
 rw[if_neg e4]
 by_cases e3:j=k *6+3
 ·subst e3
  rw[if_pos rfl,Qb,if_pos (by omega),Xjf,Xa2]
 rw[if_neg e3]
 by_cases e2:j=k *6+2
 ·subst e2
  rw[if_pos rfl,Qb,if_pos (by omega),Xpz]
 rw[if_neg e2]
 by_cases e1:j=k *6+1
 ·subst e1
  rw[if_pos rfl,Qb,if_pos (by omega),Xpy]
 rw[if_neg e1]
 by_cases e0:j=k *6
 ·subst e0
  rw[if_pos rfl,Qb,if_pos (by omega),Xpx]
 rw[if_neg e0]
 unfold Qb
 by_cases hj:j<k *6
 ·rw[if_pos hj,if_pos (by omega),Xyw hj]
 ·rw[if_neg hj,if_neg (by omega)]
def OwnsF (w:World) (fs:List FN) (lo:Nat) (Q:Nat→FBq) (k:Nat):Prop:=∀i,i<k→OwnF w (Xr fs i) lo (Q i).bc (Q i).kb (Q i).ki (Q i).bk (Q i).bi
theorem OwnsF.below {w w':World} {fs:List FN} {lo k:Nat} {Q:Nat→FBq} (h:OwnsF w fs lo Q k) (hb:Below w.heap.size w w'):OwnsF w' fs lo Q k:=fun i hi=>(h i hi).below hb
theorem OwnsF.other {w:World} {fs:List FN} {lo k c o:Nat} {Q:Nat→FBq} (h:OwnsF w fs lo Q k) (hc:c<lo) (v:Value):OwnsF (w.setCell ⟨c,o,none⟩ v) fs lo Q k:=fun i hi=>(h i hi).other hc v
theorem OwnsF.step {w:World} {fs:List FN} {lo k:Nat} {Q:Nat→FBq} (h:OwnsF w fs lo Q k) (q:FBq) (hq:OwnF w (Xr fs k) lo q.bc q.kb q.ki q.bk q.bi):OwnsF w fs lo (Xkr Q k q) (k+1):=by
 intro i hi
 by_cases e:i=k
 ·subst e;rw[Xa2];exact hq
 ·rw[Xeh Q q e];exact h i (by omega)
theorem Xcd (B:Nat) (v:Value) (fs:List FN) (w:World) (h:FNodesAt B w v fs) (hB:B≤w.heap.size):
  Calls Tryz.prog 13 #[v] w fun e w'=>e= .returned (.slice (some ⟨w.heap.size,0,none⟩) fs.length fs.length)∧
   FNodesAt w'.heap.size w' (.slice (some ⟨w.heap.size,0,none⟩) fs.length fs.length) fs∧Below w.heap.size w w':=by
 obtain ⟨hlen,a,cap,rfl,hcell⟩:=h
 have hmk:=Xcx fs.length (by omega)
 have HC:=Xa hcell
 clear hcell
 go_enter Tryz.func13,Tryz.ntmps13
 go_wp2_with fail
 clear hmk
 obtain ⟨z,hz⟩:∃z:Nat→Value,∀i,i<(Qp fs.length).size→(Qp fs.length)[i]? =some (z i):=⟨fun i=>((Qp fs.length)[i]?).getD undef,fun i hi=>by simp[hi]⟩
 have hr0:=World.rowIs_alloc w _ 84 z hz
 rw[Xcw] at hr0
 have hr1:(w.alloc (.cells (Qp fs.length) 84)).rowIs w.heap.size 84 (fs.length *6) (Qb fs (fun _=>⟨0,fun _=>0,fun _=>0,0,0⟩) z 0):=hr0.congr fun i _=>by simp[Qb]
 have hb0:Below w.heap.size w (w.alloc (.cells (Qp fs.length) 84)):=(Below.refl _ _).alloc (Nat.le_refl _) _
 clear hz hr0
 go_loopw [4] (fun i wr=>∃(k:Nat) (Q:Nat→FBq),k≤fs.length∧i= .int .i64 k∧wr.rowIs w.heap.size 84 (fs.length *6) (Qb fs Q z k)∧OwnsF wr fs (w.heap.size+1) Q k∧Below w.heap.size w wr) (fun i _=>fs.length-(intOf i).toNat)
 case atStart=>exact ⟨0,_,Nat.zero_le _,rfl,hr1,fun i hi=>by omega,hb0⟩
 case round=>
  obtain ⟨k,Q,hk,rfl,hrow,hown,hbel⟩:=hrel
  clear hr1 hb0
  by_cases hlt:k<fs.length
  ·obtain ⟨b,o,rfl,hbB,hc⟩:=HC.out (by omega)
   obtain ⟨kc,kn,ki,hn⟩:=hc k hlt
   have hn':=hn.below (hbel.mono hB) hbB
   have c0:=hn'.c0
   have c1:=hn'.c1
   have c2:=hn'.c2
   have c3:=hn'.c3
   have c4:=hn'.c4
   have c5:=hn'.c5
   have hin:=Xa hn'.inn
   have hsize:=hbel.size
   have hlt0:=hrow.lt
   clear hc hn hn'
   go_wp2_with fail
   refine (Xrg B (Xr fs k) kc kn ki _ hin.out (by omega)).mono ?_
   rintro e w1 ⟨bc,KB,KI,bk,bi,rfl,hof,hb1⟩
   have hrow1:=Y3 hrow hb1 hlt0
   have hcs0:=hrow1.cell (i:=k *6) (by omega)
   have hcs1:=hrow1.cell (i:=k *6+1) (by omega)
   have hcs2:=hrow1.cell (i:=k *6+2) (by omega)
   have hcs3:=hrow1.cell (i:=k *6+3) (by omega)
   have hcs4:=hrow1.cell (i:=k *6+4) (by omega)
   have hcs5:=hrow1.cell (i:=k *6+5) (by omega)
   have hfs:=hrow1.frozen
   have hnew:=Xa (Xji ⟨bc,KB,KI,bk,bi⟩ hrow1)
   have hst:=Xa ((hown.below hb1).step ⟨bc,KB,KI,bk,bi⟩ (hof.lower (by omega)))
   have hbel1:Below w.heap.size w w1:=hbel.trans (hb1.mono hsize)
   clear hof hown hrow hrow1
   go_wp2_with fail
   go_roundw
   case rel=>
    refine ⟨k+1,_,by omega,by go_num,hnew.out, ?_, ?_⟩
    ·refine OwnsF.other ?_ (by omega) _
     refine OwnsF.other ?_ (by omega) _
     refine OwnsF.other ?_ (by omega) _
     refine OwnsF.other ?_ (by omega) _
     refine OwnsF.other ?_ (by omega) _
     refine OwnsF.other ?_ (by omega) _
     exact hst.out
    ·refine Below.setCell (Below.setCell (Below.setCell (Below.setCell (Below.setCell (Below.setCell hbel1 ?_ _) ?_ _) ?_ _) ?_ _) ?_ _) ?_ _<;>simp
   case measure=>simp[intOf];omega
  ·obtain rfl:k=fs.length:=by omega
   have HR:=Xa hrow
   have HOW:=Xa hown
   clear hrow hown
   go_wp2_with fail
   go_ret
   refine ⟨rfl,⟨hlen,_,_,rfl,fun hp=>⟨w.heap.size,0,rfl,HR.out.lt,fun i hi=> ?_⟩⟩,hbel⟩
   obtain ⟨b,o,_,hbB,hc⟩:=HC.out hp
   obtain ⟨kc,kn,ki,hn⟩:=hc i hi
   refine ⟨_,_,_, ?_, ?_, ?_, ?_, ?_, ?_,(HOW.out i hi).inn hn.inn⟩
   ·rw[Nat.zero_add,HR.out.cell (by omega),Qb,if_pos (by omega),Xpx]
   ·rw[Nat.zero_add,HR.out.cell (by omega),Qb,if_pos (by omega),Xpy]
   ·rw[Nat.zero_add,HR.out.cell (by omega),Qb,if_pos (by omega),Xpz]
   ·rw[Nat.zero_add,HR.out.cell (by omega),Qb,if_pos (by omega),Xjf];rfl
   ·rw[Nat.zero_add,HR.out.cell (by omega),Qb,if_pos (by omega),Xjg];rfl
   ·rw[Nat.zero_add,HR.out.cell (by omega),Qb,if_pos (by omega),Xjh];rfl

structure OwnG (w:World) (x:FN) (lo bc:Nat) (KB KI:Nat→Nat) (bk bi:Nat):Prop where
 own:OwnF w x lo bc KB KI bk bi
 cb:bc<bk∧∀i,i<x.cst.length→bc<KB i∧bc<KI i∧KB i<bk∧KI i<bk
 nb:bk<bi
theorem OwnG.below {w w':World} {x:FN} {lo bc:Nat} {KB KI:Nat→Nat} {bk bi:Nat} (h:OwnG w x lo bc KB KI bk bi) (hb:Below w.heap.size w w'):OwnG w' x lo bc KB KI bk bi:=⟨h.own.below hb,h.cb,h.nb⟩
theorem OwnG.other {w:World} {x:FN} {lo bc:Nat} {KB KI:Nat→Nat} {bk bi c o:Nat} (h:OwnG w x lo bc KB KI bk bi) (hc:c<lo) (v:Value):OwnG (w.setCell ⟨c,o,none⟩ v) x lo bc KB KI bk bi:=⟨h.own.other hc v,h.cb,h.nb⟩
theorem OwnG.lower {w:World} {x:FN} {lo lo' bc:Nat} {KB KI:Nat→Nat} {bk bi:Nat} (h:OwnG w x lo bc KB KI bk bi) (hl:lo'≤lo):OwnG w x lo' bc KB KI bk bi:=⟨h.own.lower hl,h.cb,h.nb⟩
set_option maxRecDepth 100000 in
theorem Xq9 (B:Nat) (x:FN) (kc kn ki:Value) (w:World) (h:FNodeIn B w x kc kn ki) (hB:B≤w.heap.size):
  Calls Tryz.prog 43 #[.agg #[.int .i64 x.kind, .string x.name, .int .i64 x.place,kc,kn,ki]] w fun e w'=>∃(bc:Nat) (KB KI:Nat→Nat) (bk bi:Nat),
   e= .returned (.agg #[.int .i64 x.kind, .string x.name, .int .i64 x.place, .slice (some ⟨bc,0,none⟩) x.cst.length x.cst.length, .slice (some ⟨bk,0,none⟩) x.names.length x.names.length, .slice (some ⟨bi,0,none⟩) x.kids.length x.kids.length])∧
   OwnG w' x w.heap.size bc KB KI bk bi∧Below w.heap.size w w':=by
 have H:=Xa h
 obtain ⟨_,a0,c0,e0,_⟩:=h.cst
 obtain ⟨_,_,a1,c1,e1,_⟩:=h.names
 obtain ⟨_,_,a2,c2,e2,_⟩:=h.kids
 subst e0 e1 e2
 clear h
 have hbA:∀o1 o2 o3:Obj,Below w.heap.size w (((w.alloc o1).alloc o2).alloc o3):=fun o1 o2 o3=>(((Below.refl _ _).alloc (Nat.le_refl _) _).alloc (by simp) _).alloc (by simp;omega) _
 go_enter Tryz.func43,Tryz.ntmps43
 go_wp2_with fail
 refine (Kw B _ x.cst _ (H.out.cst.below ((hbA _ _ _).mono hB)) (by simp;omega)).mono ?_
 rintro e w1 ⟨KB,KI,rfl,ho1,hb1⟩
 obtain ⟨hc1,hf1⟩:=Xco hb1
 have hz1:=hb1.size
 have hB1:Below w.heap.size w w1:=(hbA _ _ _).trans (hb1.mono (by simp;omega))
 simp only[World.size_alloc] at hc1 hf1 hz1 ho1
 have hlt1:=ho1.row.lt
 have HCB:Hid ((w.heap.size+1+1+1)<w1.heap.size∧∀i,i<x.cst.length→(w.heap.size+1+1+1)<KB i∧(w.heap.size+1+1+1)<KI i∧KB i<w1.heap.size∧KI i<w1.heap.size):=⟨hlt1,fun i hi=>by
  have h1:=ho1.to.lo i hi
  have h2:=(ho1.to.rk i hi).lt
  have h3:=(ho1.to.ri i hi).lt
  omega⟩
 have HO1:=Xa ho1
 have HB1:=Xa hB1
 clear ho1 hB1 hb1
 have y0:w.heap.size<w.heap.size+1+1+1:=by omega
 have y1:w.heap.size+1<w.heap.size+1+1+1:=by omega
 have y2:w.heap.size+1+1<w.heap.size+1+1+1:=by omega
 go_wp2_with fail
 refine (Xa6 B _ x.names _ (H.out.names.below ((HB1.out.setCell (by simp;omega) _).mono hB)) (by simp;omega)).mono ?_
 rintro e w2 ⟨rfl,hrow2,hb2⟩
 obtain ⟨hc2,hf2⟩:=Xco hb2
 have hz2:=hb2.size
 have hB2:Below w.heap.size w w2:=(HB1.out.setCell (by simp;omega) _).trans (hb2.mono (by simp;omega))
 have hO2:=(HO1.out.other (c:=w.heap.size+1+1) (by omega) _).below hb2
 simp only[World.size_setCell] at hc2 hf2 hz2 hrow2
 have hlt2:=hrow2.lt
 have HO2:=Xa hO2
 have HB2:=Xa hB2
 have HR2:=Xa hrow2
 clear hO2 hB2 hb2 hrow2
 have y3:w.heap.size<w1.heap.size:=by omega
 have y4:w.heap.size+1<w1.heap.size:=by omega
 have y5:w.heap.size+1+1<w1.heap.size:=by omega
 go_wp2_with fail
 refine (Xb2 B _ x.kids _ (H.out.kids.below ((HB2.out.setCell (by simp;omega) _).mono hB)) (by simp;omega)).mono ?_
 rintro e w3 ⟨rfl,hrow3,hb3⟩
 obtain ⟨hc3,hf3⟩:=Xco hb3
 have hz3:=hb3.size
 have hB3:Below w.heap.size w w3:=(HB2.out.setCell (by simp;omega) _).trans (hb3.mono (by simp;omega))
 have hO3:=(HO2.out.other (c:=w.heap.size+1+1) (by omega) _).below hb3
 have hR2:=Y3 (HR2.out.setOther (Z5 (show w1.heap.size≠w.heap.size+1+1 by omega)) _) hb3 (by simp;omega)
 simp only[World.size_setCell] at hc3 hf3 hz3 hrow3
 have hlt3:=hrow3.lt
 have HOF:Hid (OwnG w3 x (w.heap.size+1+1+1) (w.heap.size+1+1+1) KB KI w1.heap.size w2.heap.size):=⟨⟨by omega,by omega,by omega,hO3,hR2,hrow3⟩,HCB.out,by omega⟩
 have HB3:=Xa hB3
 clear hO3 hB3 hb3 hR2 hrow3
 have y6:w.heap.size<w2.heap.size:=by omega
 have y7:w.heap.size+1<w2.heap.size:=by omega
 have y8:w.heap.size+1+1<w2.heap.size:=by omega
 go_wp2_with fail
 refine bodyPost_ret (v:= .agg #[.int .i64 x.kind, .string x.name, .int .i64 x.place, .slice (some ⟨w.heap.size+1+1+1,0,none⟩) x.cst.length x.cst.length, .slice (some ⟨w1.heap.size,0,none⟩) x.names.length x.names.length, .slice (some ⟨w2.heap.size,0,none⟩) x.kids.length x.kids.length]) (by simp[results,Tryz.results43,go_sem,hc3,hc2,hc1,y1,y4,y7]) rfl ⟨w.heap.size+1+1+1,KB,KI,w1.heap.size,w2.heap.size,rfl, ?_, ?_⟩
 ·refine OwnG.lower (lo:=w.heap.size+1+1+1) ?_ (by omega)
  refine OwnG.other ?_ (by omega) _
  refine OwnG.other ?_ (by omega) _
  refine OwnG.other ?_ (by omega) _
  refine OwnG.other ?_ (by omega) _
  refine OwnG.other ?_ (by omega) _
  refine OwnG.other ?_ (by omega) _
  refine OwnG.other ?_ (by omega) _
  exact HOF.out
 ·refine Below.setCell (Below.setCell (Below.setCell (Below.setCell (Below.setCell (Below.setCell (Below.setCell HB3.out ?_ _) ?_ _) ?_ _) ?_ _) ?_ _) ?_ _) ?_ _<;>simp<;>omega

structure OwnsG (w:World) (fs:List FN) (lo:Nat) (L:Nat→Nat) (Q:Nat→FBq) (k:Nat):Prop where
 own:∀i,i<k→OwnG w (Xr fs i) (L i) (Q i).bc (Q i).kb (Q i).ki (Q i).bk (Q i).bi∧(Q i).bi<L (i+1)
 low:∀i,i≤k→lo≤L i
 mono:∀i j,i≤j→j≤k→L i≤L j
 top:L k≤w.heap.size
theorem OwnsG.below {w w':World} {fs:List FN} {lo k:Nat} {L:Nat→Nat} {Q:Nat→FBq} (h:OwnsG w fs lo L Q k) (hb:Below w.heap.size w w'):OwnsG w' fs lo L Q k:=⟨fun i hi=>⟨(h.own i hi).1.below hb,(h.own i hi).2⟩,h.low,h.mono,Nat.le_trans h.top hb.size⟩
theorem OwnsG.other {w:World} {fs:List FN} {lo k c o:Nat} {L:Nat→Nat} {Q:Nat→FBq} (h:OwnsG w fs lo L Q k) (hc:c<lo) (v:Value):OwnsG (w.setCell ⟨c,o,none⟩ v) fs lo L Q k:=⟨fun i hi=>⟨(h.own i hi).1.other (Nat.lt_of_lt_of_le hc (h.low i (by omega))) v,(h.own i hi).2⟩,h.low,h.mono,by rw[World.size_setCell];exact h.top⟩
theorem OwnsG.step {w w1:World} {fs:List FN} {lo k:Nat} {L:Nat→Nat} {Q:Nat→FBq} (h:OwnsG w fs lo L Q k) (hb:Below w.heap.size w w1) (q:FBq) (hq:OwnG w1 (Xr fs k) w.heap.size q.bc q.kb q.ki q.bk q.bi):OwnsG w1 fs lo (fun i=>if i<k then L i else if i=k then w.heap.size else w1.heap.size) (Xkr Q k q) (k+1):=by
 have hs:=hb.size
 have ht:=h.top
 refine ⟨fun i hi=> ?_,fun i hi=> ?_,fun i j hij hj=> ?_, ?_⟩
 ·by_cases e:i=k
  ·subst e
   rw[Xa2]
   simp only[Nat.lt_irrefl,if_true,if_false]
   rw[if_neg (by omega),if_neg (by omega)]
   exact ⟨hq,hq.own.ri.lt⟩
  ·rw[Xeh Q q e]
   have hik:i<k:=by omega
   simp only[if_pos hik]
   refine ⟨(h.own i hik).1.below hb, ?_⟩
   have h1:=(h.own i hik).2
   by_cases e2:i+1<k
   ·rw[if_pos e2];exact h1
   ·have e3:i+1=k:=by omega
    rw[if_neg e2,if_pos e3]
    rw[e3] at h1
    omega
 ·have h1:=h.low (min i k) (Nat.min_le_right _ _)
  have h2:=h.low k (Nat.le_refl _)
  by_cases e:i<k
  ·simp only[if_pos e];exact h.low i (by omega)
  ·simp only[if_neg e]
   split<;>omega
 ·by_cases ej:j<k
  ·simp only[if_pos ej,if_pos (show i<k by omega)];exact h.mono i j hij (by omega)
  ·by_cases ei:i<k
   ·have h1:=h.mono i k (by omega) (Nat.le_refl _)
    simp only[if_pos ei,if_neg ej]
    split<;>omega
   ·simp only[if_neg ei,if_neg ej]
    by_cases e1:j=k
    ·rw[if_pos (show i=k by omega),if_pos e1];exact Nat.le_refl _
    ·rw[if_neg e1]
     split<;>omega
 ·simp only[if_neg (show ¬k+1<k by omega),if_neg (show ¬k+1=k by omega)]
  exact Nat.le_refl _
theorem Xpd (B:Nat) (v:Value) (fs:List FN) (w:World) (h:FNodesAt B w v fs) (hB:B≤w.heap.size):
  Calls Tryz.prog 13 #[v] w fun e w'=>e= .returned (.slice (some ⟨w.heap.size,0,none⟩) fs.length fs.length)∧
   (∃(L:Nat→Nat) (Q:Nat→FBq),w'.rowIs w.heap.size 84 (fs.length *6) (Jz fs Q)∧OwnsG w' fs (w.heap.size+1) L Q fs.length)∧FNodesAt w'.heap.size w' (.slice (some ⟨w.heap.size,0,none⟩) fs.length fs.length) fs∧Below w.heap.size w w':=by
 obtain ⟨hlen,a,cap,rfl,hcell⟩:=h
 have hmk:=Xcx fs.length (by omega)
 have HC:=Xa hcell
 clear hcell
 go_enter Tryz.func13,Tryz.ntmps13
 go_wp2_with fail
 clear hmk
 obtain ⟨z,hz⟩:∃z:Nat→Value,∀i,i<(Qp fs.length).size→(Qp fs.length)[i]? =some (z i):=⟨fun i=>((Qp fs.length)[i]?).getD undef,fun i hi=>by simp[hi]⟩
 have hr0:=World.rowIs_alloc w _ 84 z hz
 rw[Xcw] at hr0
 have hr1:(w.alloc (.cells (Qp fs.length) 84)).rowIs w.heap.size 84 (fs.length *6) (Qb fs (fun _=>⟨0,fun _=>0,fun _=>0,0,0⟩) z 0):=hr0.congr fun i _=>by simp[Qb]
 have hb0:Below w.heap.size w (w.alloc (.cells (Qp fs.length) 84)):=(Below.refl _ _).alloc (Nat.le_refl _) _
 clear hz hr0
 go_loopw [4] (fun i wr=>∃(k:Nat) (L:Nat→Nat) (Q:Nat→FBq),k≤fs.length∧i= .int .i64 k∧wr.rowIs w.heap.size 84 (fs.length *6) (Qb fs Q z k)∧OwnsG wr fs (w.heap.size+1) L Q k∧Below w.heap.size w wr) (fun i _=>fs.length-(intOf i).toNat)
 case atStart=>exact ⟨0,fun _=>w.heap.size+1,_,Nat.zero_le _,rfl,hr1,⟨fun i hi=>by omega,fun _ _=>Nat.le_refl _,fun _ _ _ _=>Nat.le_refl _,by simp⟩,hb0⟩
 case round=>
  obtain ⟨k,L,Q,hk,rfl,hrow,hown,hbel⟩:=hrel
  clear hr1 hb0
  by_cases hlt:k<fs.length
  ·obtain ⟨b,o,rfl,hbB,hc⟩:=HC.out (by omega)
   obtain ⟨kc,kn,ki,hn⟩:=hc k hlt
   have hn':=hn.below (hbel.mono hB) hbB
   have c0:=hn'.c0
   have c1:=hn'.c1
   have c2:=hn'.c2
   have c3:=hn'.c3
   have c4:=hn'.c4
   have c5:=hn'.c5
   have hin:=Xa hn'.inn
   have hsize:=hbel.size
   have hlt0:=hrow.lt
   clear hc hn hn'
   go_wp2_with fail
   refine (Xq9 B (Xr fs k) kc kn ki _ hin.out (by omega)).mono ?_
   rintro e w1 ⟨bc,KB,KI,bk,bi,rfl,hof,hb1⟩
   have hrow1:=Y3 hrow hb1 hlt0
   have hcs0:=hrow1.cell (i:=k *6) (by omega)
   have hcs1:=hrow1.cell (i:=k *6+1) (by omega)
   have hcs2:=hrow1.cell (i:=k *6+2) (by omega)
   have hcs3:=hrow1.cell (i:=k *6+3) (by omega)
   have hcs4:=hrow1.cell (i:=k *6+4) (by omega)
   have hcs5:=hrow1.cell (i:=k *6+5) (by omega)
   have hfs:=hrow1.frozen
   have hnew:=Xa (Xji ⟨bc,KB,KI,bk,bi⟩ hrow1)
   have hst:=Xa (hown.step hb1 ⟨bc,KB,KI,bk,bi⟩ hof)
   have hbel1:Below w.heap.size w w1:=hbel.trans (hb1.mono hsize)
   clear hof hown hrow hrow1
   go_wp2_with fail
   go_roundw
   case rel=>
    refine ⟨k+1,(fun i=>if i<k then L i else if i=k then wr.heap.size else w1.heap.size),_,by omega,by go_num,hnew.out, ?_, ?_⟩
    ·refine OwnsG.other ?_ (by omega) _
     refine OwnsG.other ?_ (by omega) _
     refine OwnsG.other ?_ (by omega) _
     refine OwnsG.other ?_ (by omega) _
     refine OwnsG.other ?_ (by omega) _
     refine OwnsG.other ?_ (by omega) _
     exact hst.out
    ·refine Below.setCell (Below.setCell (Below.setCell (Below.setCell (Below.setCell (Below.setCell hbel1 ?_ _) ?_ _) ?_ _) ?_ _) ?_ _) ?_ _<;>simp
   case measure=>simp[intOf];omega
  ·obtain rfl:k=fs.length:=by omega
   have HR:=Xa hrow
   have HOW:=Xa hown
   clear hrow hown
   go_wp2_with fail
   go_ret
   refine ⟨rfl,⟨L,Q,HR.out.congr (fun j hj=>by rw[Qb,if_pos hj]),HOW.out⟩,⟨hlen,_,_,rfl,fun hp=>⟨w.heap.size,0,rfl,HR.out.lt,fun i hi=> ?_⟩⟩,hbel⟩
   obtain ⟨b,o,_,hbB,hc⟩:=HC.out hp
   obtain ⟨kc,kn,ki,hn⟩:=hc i hi
   refine ⟨_,_,_, ?_, ?_, ?_, ?_, ?_, ?_,((HOW.out.own i hi).1.own).inn hn.inn⟩
   ·rw[Nat.zero_add,HR.out.cell (by omega),Qb,if_pos (by omega),Xpx]
   ·rw[Nat.zero_add,HR.out.cell (by omega),Qb,if_pos (by omega),Xpy]
   ·rw[Nat.zero_add,HR.out.cell (by omega),Qb,if_pos (by omega),Xpz]
   ·rw[Nat.zero_add,HR.out.cell (by omega),Qb,if_pos (by omega),Xjf];rfl
   ·rw[Nat.zero_add,HR.out.cell (by omega),Qb,if_pos (by omega),Xjg];rfl
   ·rw[Nat.zero_add,HR.out.cell (by omega),Qb,if_pos (by omega),Xjh];rfl

theorem Xrq (B:Nat) (x:FN) (kc kn ki kc' kn' ki':Value) (w:World) (h:FNodeIn B w x kc kn ki) (h':FNodeIn B w x kc' kn' ki') (hB:B≤w.heap.size):
  Calls Tryz.prog 45 #[.agg #[.int .i64 x.kind, .string x.name, .int .i64 x.place,kc,kn,ki], .agg #[.int .i64 x.kind, .string x.name, .int .i64 x.place,kc',kn',ki']] w fun e w'=>e= .returned (.bool true)∧Below w.heap.size w w':=by
 have H:=Xa h
 have H':=Xa h'
 obtain ⟨_,a0,c0,e0,_⟩:=h.cst
 obtain ⟨_,_,a1,c1,e1,_⟩:=h.names
 obtain ⟨_,_,a2,c2,e2,_⟩:=h.kids
 obtain ⟨_,a3,c3,e3,_⟩:=h'.cst
 obtain ⟨_,_,a4,c4,e4,_⟩:=h'.names
 obtain ⟨_,_,a5,c5,e5,_⟩:=h'.kids
 have f1:(x.kind !=x.kind)=false:=by simp
 have f2:(x.place !=x.place)=false:=by simp
 have f3:(x.name.toList==x.name.toList)=true:=by simp
 subst e0 e1 e2 e3 e4 e5
 clear h h'
 obtain ⟨W1,hW1⟩:∃W1,W1=(w.alloc (.cells #[.int .i64 x.kind, .string x.name, .int .i64 x.place, .slice a0 x.cst.length c0, .slice a1 x.names.length c1, .slice a2 x.kids.length c2] 84)).alloc (.cells #[.int .i64 x.kind, .string x.name, .int .i64 x.place, .slice a3 x.cst.length c3, .slice a4 x.names.length c4, .slice a5 x.kids.length c5] 84):=⟨_,rfl⟩
 have d3:W1.cell? ⟨w.heap.size,3,none⟩=some (.slice a0 x.cst.length c0):=by rw[hW1];simp
 have d4:W1.cell? ⟨w.heap.size,4,none⟩=some (.slice a1 x.names.length c1):=by rw[hW1];simp
 have d5:W1.cell? ⟨w.heap.size,5,none⟩=some (.slice a2 x.kids.length c2):=by rw[hW1];simp
 have g3:W1.cell? ⟨w.heap.size+1,3,none⟩=some (.slice a3 x.cst.length c3):=by rw[hW1];simp
 have g4:W1.cell? ⟨w.heap.size+1,4,none⟩=some (.slice a4 x.names.length c4):=by rw[hW1];simp
 have g5:W1.cell? ⟨w.heap.size+1,5,none⟩=some (.slice a5 x.kids.length c5):=by rw[hW1];simp
 have HZ:Hid (W1.heap.size=w.heap.size+1+1):=by rw[Hid,hW1];simp
 have HBW:Hid (Below w.heap.size w W1):=by rw[Hid,hW1];exact ((Below.refl _ _).alloc (Nat.le_refl _) _).alloc (by simp) _
 have HW1:=Xa hW1
 clear hW1
 go_enter Tryz.func45,Tryz.ntmps45
 go_wp2_with fail
 rw[←HW1.out]
 refine (Xb5 B _ _ x.cst W1 (H.out.cst.below (HBW.out.mono hB)) (H'.out.cst.below (HBW.out.mono hB)) (by rw[HZ.out];omega)).mono ?_
 rintro e w2 ⟨rfl,hb2⟩
 have j4:=(Xc hb2 (show w.heap.size<W1.heap.size by rw[HZ.out];omega)).trans d4
 have j5:=(Xc hb2 (show w.heap.size<W1.heap.size by rw[HZ.out];omega)).trans d5
 have k4:=(Xc hb2 (show w.heap.size+1<W1.heap.size by rw[HZ.out];omega)).trans g4
 have k5:=(Xc hb2 (show w.heap.size+1<W1.heap.size by rw[HZ.out];omega)).trans g5
 have z2:=hb2.size
 rw[HZ.out] at z2
 have HB2:Hid (Below w.heap.size w w2):=HBW.out.trans (hb2.mono (by rw[HZ.out];omega))
 clear hb2 d3 d4 d5 g3 g4 g5
 go_wp2_with fail
 refine (Xet B _ _ x.names _ (H.out.names.below (HB2.out.mono hB)) (H'.out.names.below (HB2.out.mono hB)) (by omega)).mono ?_
 rintro e w3 ⟨rfl,hb3⟩
 have l5:=(Xc hb3 (show w.heap.size<w2.heap.size by omega)).trans j5
 have m5:=(Xc hb3 (show w.heap.size+1<w2.heap.size by omega)).trans k5
 have z3:=hb3.size
 have HB3:Hid (Below w.heap.size w w3):=HB2.out.trans (hb3.mono (by omega))
 clear hb3 j4 j5 k4 k5
 go_wp2_with fail
 refine (Xfd B _ _ x.kids _ (H.out.kids.below (HB3.out.mono hB)) (H'.out.kids.below (HB3.out.mono hB)) (by omega)).mono ?_
 rintro e w4 ⟨rfl,hb4⟩
 have HB4:Hid (Below w.heap.size w w4):=HB3.out.trans (hb4.mono (by omega))
 clear hb4
 go_wp2_with fail
 go_ret
 exact ⟨rfl,HB4.out⟩
theorem Xon (B:Nat) (v1 v2:Value) (fs:List FN) (w:World) (h1:FNodesAt B w v1 fs) (h2:FNodesAt B w v2 fs) (hB:B≤w.heap.size):
  Calls Tryz.prog 16 #[v1,v2] w fun e w'=>e= .returned (.bool true)∧Below w.heap.size w w':=by
 obtain ⟨hlen,a1,cap1,rfl,hcell1⟩:=h1
 obtain ⟨_,a2,cap2,rfl,hcell2⟩:=h2
 have hne:((fs.length:Int) !=(fs.length:Int))=false:=by simp
 have HC1:=Xa hcell1
 have HC2:=Xa hcell2
 clear hcell1 hcell2
 go_enter Tryz.func16,Tryz.ntmps16
 go_wp2_with fail
 go_loopw [5] (fun i wr=>∃k:Nat,k≤fs.length∧i= .int .i64 k∧Below w.heap.size w wr) (fun i _=>fs.length-(intOf i).toNat)
 case atStart=>exact ⟨0,Nat.zero_le _,rfl,Below.refl _ _⟩
 case round=>
  obtain ⟨k,hk,rfl,hbel⟩:=hrel
  by_cases hlt:k<fs.length
  ·obtain ⟨b1,o1,rfl,hb1,hc1⟩:=HC1.out (by omega)
   obtain ⟨b2,o2,rfl,hb2,hc2⟩:=HC2.out (by omega)
   obtain ⟨kc,kn,ki,hn⟩:=hc1 k hlt
   obtain ⟨kc',kn',ki',hn'⟩:=hc2 k hlt
   have g:=hn.below (hbel.mono hB) hb1
   have g':=hn'.below (hbel.mono hB) hb2
   have c0:=g.c0
   have c1:=g.c1
   have c2:=g.c2
   have c3:=g.c3
   have c4:=g.c4
   have c5:=g.c5
   have d0:=g'.c0
   have d1:=g'.c1
   have d2:=g'.c2
   have d3:=g'.c3
   have d4:=g'.c4
   have d5:=g'.c5
   have hin:=g.inn
   have hin':=g'.inn
   have hsize:=hbel.size
   clear hc1 hc2 hn hn' g g'
   go_wp2_with fail
   go_region_with (go_at_call 45;refine (Xrq B (Xr fs k) kc kn ki kc' kn' ki' _ ?_ ?_ ?_).mono ?_;exact hin.below (Xaj rfl rfl rfl rfl);exact hin'.below (Xaj rfl rfl rfl rfl);exact (by simp;omega);rintro e w1 ⟨rfl,hq⟩)
   all_goals
    have hb2:Below w.heap.size w w1:=hbel.drew.trans (hq.mono (by simpa using hsize))
    go_wp2_with fail
    go_roundw
    case rel=>exact ⟨k+1,by omega,by go_num,hb2⟩
    case measure=>simp[intOf];omega
  ·go_wp2_with fail
   go_ret
   exact ⟨rfl,hbel⟩

end Go.Proofs.YtdjddneidbddpaaGreatDoor
