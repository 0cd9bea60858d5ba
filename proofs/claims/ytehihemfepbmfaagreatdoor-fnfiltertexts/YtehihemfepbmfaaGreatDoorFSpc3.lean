import Derived.Test.YtehihemfepbmfaaGreatDoorFEq
import Derived.Deep.Light
import Derived.Lib.Strings
import Derived.Laws.Cover1
namespace Go.Proofs.YtehihemfepbmfaaGreatDoor
set_option linter.unusedSectionVars false
set_option maxHeartbeats 6400000
open Go.RowKit
set_option linter.unusedSimpArgs false
set_option linter.unusedVariables false
theorem Vt (c:Nat) (w:World) (hc:c<256):
  Calls Tryz.prog 98 #[.int .u8 c] w fun e w'=>e= .returned (.bool (Yt c))∧w'=w:=by
 go_enter Tryz.func98,Tryz.ntmps98
 go_wp2_with fail
 all_goals
  go_ret
  refine ⟨Xj ?_,rfl⟩
  rw[Bool.eq_iff_iff]
  simp[Yt]
  omega
theorem We (c:Nat) (w:World) (hc:c<256):
  Calls Tryz.prog 133 #[.int .u8 c] w fun e w'=>e= .returned (.bool (Zk c))∧w'=w:=by
 go_enter Tryz.func133,Tryz.ntmps133
 go_wp2_with fail
 all_goals
  go_ret
  refine ⟨Xj ?_,rfl⟩
  rw[Bool.eq_iff_iff]
  simp[Zk]
  omega
theorem Xe7 (c:Nat) (w:World) (hc:c<256):
  Calls Tryz.prog 99 #[.int .u8 c] w fun e w'=>e= .returned (.bool (Yt c||Zk c))∧w'=w:=by
 go_enter Tryz.func99,Tryz.ntmps99
 go_wp2_with fail
 refine (Vt c w hc).mono ?_
 rintro e w1 ⟨rfl,rfl⟩
 cases hl:Yt c
 ·go_wp2_with fail
  refine (We c w1 hc).mono ?_
  rintro e w2 ⟨rfl,rfl⟩
  go_wp2_with fail
  go_ret
  exact ⟨Xj (by rw[hl];rfl),rfl⟩
 ·go_wp2_with fail
  go_ret
  exact ⟨Xj (by rw[hl];rfl),rfl⟩
theorem G7 {s:ByteArray}:s.toList= []↔s.size=0:=by
 rw[Lib.toList_data]
 constructor
 ·intro h
  have:=congrArg List.length h
  simpa using this
 ·intro h
  apply List.eq_nil_of_length_eq_zero
  simpa using h
theorem Xir {s:ByteArray} {j:Nat} (hj:j<s.size) (h:(Yt (Yq s j)||Zk (Yq s j))=false):Ya s=false:=by
 unfold Ya
 rw[show ((List.range s.size).all fun j=>Yt (Yq s j)||Zk (Yq s j))=false from ?_,Bool.and_false]
 rw[List.all_eq_false]
 exact ⟨j,List.mem_range.2 hj,by rw[h];exact Bool.false_ne_true⟩
theorem Xgw {s:ByteArray} (h0:0<s.size) (h1:s.size≤60) (h2:Yt (Yq s 0)=true) (h:∀j,j<s.size→(Yt (Yq s j)||Zk (Yq s j))=true):Ya s=true:=by
 unfold Ya
 rw[show ((List.range s.size).all fun j=>Yt (Yq s j)||Zk (Yq s j))=true from ?_,h2]
 ·simp[h0,h1]
 ·rw[List.all_eq_true]
  exact fun j hj=>h j (List.mem_range.1 hj)
theorem Xdt (c:UInt8):c.toNat<256:=c.toNat_lt
theorem Xe8 (s:ByteArray) (w:World) (hs:s.size≤140737488355328):
  Calls Tryz.prog 65 #[.string s] w fun e w'=>e= .returned (.bool (Ya s))∧w'=w:=by
 by_cases h0:s.size=0
 ·have hz:(s.toList== [])=true:=by simpa using G7.2 h0
  have H:Hid (Ya s=false):=by simp[Hid,Ya,h0]
  clear h0
  go_enter Tryz.func65,Tryz.ntmps65
  go_wp2
  go_ret
  exact ⟨Xj H.out.symm,rfl⟩
 have hz:(s.toList== [])=false:=by simpa using fun e=>h0 (G7.1 e)
 by_cases h60:60<s.size
 ·have H:Hid (Ya s=false):=by simp[Hid,Ya];omega
  have h':(60:Int)<(s.size:Int):=by omega
  go_enter Tryz.func65,Tryz.ntmps65
  go_wp2
  go_ret
  exact ⟨Xj H.out.symm,rfl⟩
 have h':¬(60:Int)<(s.size:Int):=by omega
 have hp:0<s.size:=by omega
 have hb0:=Ut hp
 cases hl:Yt (Yq s 0)
 ·have H:Hid (Ya s=false):=by rw[Hid,Ya,hl];simp
  have HB:=Xb hb0
  have HL:=Xb hl
  clear hl hb0
  go_enter Tryz.func65,Tryz.ntmps65
  go_wp2_with fail
  refine (Vt _ w (Xdt _)).mono ?_
  rintro e w1 ⟨rfl,rfl⟩
  rw[HB.out,HL.out]
  go_wp2_with fail
  go_ret
  exact ⟨Xj H.out.symm,rfl⟩
 have HB:=Xb hb0
 have HL:=Xb hl
 clear hl hb0
 go_enter Tryz.func65,Tryz.ntmps65
 go_wp2_with fail
 refine (Vt _ w (Xdt _)).mono ?_
 rintro e w1 ⟨rfl,rfl⟩
 rw[HB.out,HL.out]
 go_wp2_with fail
 go_loopw [19] (fun i wr=>∃k:Nat,k≤s.size∧i= .int .i64 k∧Hid (∀j,j<k→(Yt (Yq s j)||Zk (Yq s j))=true)∧wr=w1) (fun i _=>s.size-(intOf i).toNat)
 case atStart=>exact ⟨0,Nat.zero_le _,rfl,fun j h=>absurd h (by omega),rfl⟩
 case round=>
  obtain ⟨k,hk,rfl,HA,rfl⟩:=hrel
  by_cases hlt:k<s.size
  ·have hbk:=Xb (Ut hlt)
   go_wp2_with fail
   refine (Xe7 _ _ (Xdt _)).mono ?_
   rintro e w2 ⟨rfl,rfl⟩
   rw[hbk.out]
   cases hc:(Yt (Yq s k)||Zk (Yq s k))
   ·have H:Hid (Ya s=false):=Xir hlt hc
    clear hc
    go_wp2_with fail
    go_ret
    exact ⟨Xj H.out.symm,rfl⟩
   ·have HA2:Hid (∀j,j<k+1→(Yt (Yq s j)||Zk (Yq s j))=true):=fun j hj=>by
     by_cases e:j=k
     ·subst e;exact hc
     ·exact HA.out j (by omega)
    clear hc
    go_wp2_with fail
    go_roundw
    case rel=>exact ⟨k+1,by omega,by go_num,HA2,by trivial⟩
    case measure=>simp[intOf];omega
  ·have H:Hid (Ya s=true):=Xgw hp (by omega) HL.out (fun j hj=>HA.out j (by omega))
   go_wp2_with fail
   go_ret
   exact ⟨Xj H.out.symm,rfl⟩
theorem Xmy {l:List ByteArray} {k:Nat} (hk:k<l.length) (h:Ya (Xt l k)=false):Z2 l=false:=by
 unfold Z2
 rw[Xde hk (by unfold Q4;rw[h,Bool.false_and]),Bool.and_false]
theorem Xpr {l:List ByteArray} (h5:l.length≤5) (h:∀j,j<l.length→Ya (Xt l j)=true):Z2 l=Kt l:=by
 unfold Z2
 rw[Xhk,show ((List.range l.length).all fun j=>Ya (Xt l j))=true from List.all_eq_true.2 (fun j hj=>h j (List.mem_range.1 hj))]
 simp[h5]
theorem Xkq (B:Nat) (v:Value) (l:List ByteArray) (w:World) (h:StrsAt B w v l):
  Calls Tryz.prog 67 #[v] w fun e w'=>e= .returned (.bool (Z2 l))∧w'=w:=by
 have HS:=Xb h
 obtain ⟨hkn,hks,a1,c1,rfl,hcell⟩:=h
 by_cases h5:5<l.length
 ·have H:Hid (Z2 l=false):=by simp[Hid,Z2];omega
  have h':(5:Int)<(l.length:Int):=by omega
  go_enter Tryz.func67,Tryz.ntmps67
  go_wp2_with fail
  go_ret
  exact ⟨Xj H.out.symm,rfl⟩
 have h':¬(5:Int)<(l.length:Int):=by omega
 have HC:=Xb hcell
 clear hcell
 go_enter Tryz.func67,Tryz.ntmps67
 go_wp2_with fail
 go_loopw [10] (fun i wr=>∃k:Nat,k≤l.length∧i= .int .i64 k∧Hid (∀j,j<k→Ya (Xt l j)=true)∧wr=w) (fun i _=>l.length-(intOf i).toNat)
 case atStart=>exact ⟨0,Nat.zero_le _,rfl,fun j h=>absurd h (by omega),rfl⟩
 case round=>
  obtain ⟨k,hk,rfl,HA,rfl⟩:=hrel
  by_cases hlt:k<l.length
  ·obtain ⟨b,o,rfl,hbB,hc⟩:=HC.out (by omega)
   have hck:=hc k hlt
   have hs:=hks k hlt
   clear hc
   go_wp2_with fail
   refine (Xe8 _ _ hs).mono ?_
   rintro e w2 ⟨rfl,rfl⟩
   cases hn:Ya (Xt l k)
   ·have H:Hid (Z2 l=false):=Xmy hlt hn
    clear hn
    go_wp2_with fail
    go_ret
    exact ⟨Xj H.out.symm,rfl⟩
   ·have HA2:Hid (∀j,j<k+1→Ya (Xt l j)=true):=fun j hj=>by
     by_cases e:j=k
     ·subst e;exact hn
     ·exact HA.out j (by omega)
    clear hn
    go_wp2_with fail
    go_roundw
    case rel=>exact ⟨k+1,by omega,by go_num,HA2,by trivial⟩
    case measure=>simp[intOf];omega
  ·have H:Hid (Z2 l=Kt l):=Xpr (by omega) (fun j hj=>HA.out j (by omega))
   go_wp2_with fail
   refine (Xcw B _ l _ HS.out).mono ?_
   rintro e w2 ⟨rfl,rfl⟩
   go_wp2_with fail
   go_ret
   exact ⟨Xj H.out.symm,rfl⟩
theorem Xkr (B:Nat) (v:Value) (vs:List VN) (w:World) (h:NodesAt B w v vs) (hB:B≤w.heap.size):
  Calls Tryz.prog 66 #[v] w fun e w'=>e= .returned (.bool (Q9 vs))∧Below w.heap.size w w':=by
 have HS:=Xb h
 obtain ⟨hkn,a1,c1,rfl,hcell⟩:=h
 by_cases h1:vs.length=1
 ·have HC:=Xb hcell
  clear hcell
  have HL:=Xb h1
  have q1:((vs.length:Int)==1)=true:=by simp[h1]
  have hp:0<vs.length:=by omega
  clear h1
  cases hok:okB vs
  ·have H:Hid (Q9 vs=false):=by simp[Hid,Q9,hok]
   have HK:=Xb hok
   clear hok
   go_enter Tryz.func66,Tryz.ntmps66
   go_wp2_with fail
   refine (Xag B _ vs w HS.out hB).mono ?_
   rintro e w1 ⟨rfl,hb⟩
   rw[HK.out]
   go_wp2_with fail
   go_ret
   exact ⟨Xj H.out.symm,hb⟩
  ·have HK:=Xb hok
   have H:Hid (Q9 vs=(decide ((Xc vs 0).kind≠5)&&decide ((Xc vs 0).kind≠6))):=by simp[Hid,Q9,HK.out,HL.out]
   clear hok
   obtain ⟨b,o,rfl,hbB,hc⟩:=HC.out hp
   obtain ⟨ka,ki,hn⟩:=hc 0 hp
   have c0:=hn.c0
   clear hc hn
   rw[Nat.zero_mul,Nat.add_zero] at c0
   go_enter Tryz.func66,Tryz.ntmps66
   go_wp2_with fail
   refine (Xag B _ vs w HS.out hB).mono ?_
   rintro e w1 ⟨rfl,hb⟩
   rw[HK.out]
   have d0:=(Xd hb (show b<w.heap.size by omega)).trans c0
   clear c0
   by_cases k5:(Xc vs 0).kind=5
   ·have q5:((Xc vs 0).kind !=5)=false:=by simp[k5]
    have H2:Hid (Q9 vs=false):=by rw[Hid,H.out];simp[k5]
    clear k5
    go_wp2_with fail
    go_ret
    exact ⟨Xj H2.out.symm,hb⟩
   ·have q5:((Xc vs 0).kind !=5)=true:=by simp[k5]
    by_cases k6:(Xc vs 0).kind=6
    ·have q6:((Xc vs 0).kind !=6)=false:=by simp[k6]
     have H2:Hid (Q9 vs=false):=by rw[Hid,H.out];simp[k6]
     clear k5 k6
     go_wp2_with fail
     go_ret
     exact ⟨Xj H2.out.symm,hb⟩
    ·have q6:((Xc vs 0).kind !=6)=true:=by simp[k6]
     have H2:Hid (Q9 vs=true):=by rw[Hid,H.out];simp[k5,k6]
     clear k5 k6
     go_wp2_with fail
     go_ret
     exact ⟨Xj H2.out.symm,hb⟩
 ·have q1:((vs.length:Int)==1)=false:=by rw[beq_eq_false_iff_ne];omega
  have H:Hid (Q9 vs=false):=by simp[Hid,Q9,h1]
  clear h1 hcell
  go_enter Tryz.func66,Tryz.ntmps66
  go_wp2_with fail
  go_ret
  exact ⟨Xj H.out.symm,Below.refl _ _⟩
theorem Xbq (B:Nat) (x:FN) (kc kn ki:Value) (w:World) (h:FNodeIn B w x kc kn ki):
  Calls Tryz.prog 26 #[.agg #[.int .i64 x.kind, .string x.name, .int .i64 x.place,kc,kn,ki]] w fun e w'=>e= .returned (.bool (Gf x))∧Below w.heap.size w w':=by
 obtain ⟨_,a0,c0,e0,_⟩:=h.cst
 obtain ⟨_,_,a1,c1,e1,_⟩:=h.names
 obtain ⟨_,_,a2,c2,e2,_⟩:=h.kids
 subst e0 e1 e2
 clear h
 go_enter Tryz.func26,Tryz.ntmps26
 go_wp2_with fail
 all_goals
  go_ret
  refine ⟨Xj ?_,(Below.refl _ _).alloc (Nat.le_refl _) _⟩
  go_light
  simp_all [Gf]
theorem Xa8 (B:Nat) (x:FN) (kc kn ki:Value) (w:World) (h:FNodeIn B w x kc kn ki) (hB:B≤w.heap.size):
  Calls Tryz.prog 27 #[.agg #[.int .i64 x.kind, .string x.name, .int .i64 x.place,kc,kn,ki]] w fun e w'=>e= .returned (.bool (Ja x))∧Below w.heap.size w w':=by
 have hsz:=h.size
 have HC:=Xb h.cst
 have HK:=Xb h.names
 obtain ⟨_,a0,c0,e0,_⟩:=h.cst
 obtain ⟨_,_,a1,c1,e1,_⟩:=h.names
 obtain ⟨_,_,a2,c2,e2,_⟩:=h.kids
 subst e0 e1 e2
 clear h
 have hw1:∀o,Below w.heap.size w (w.alloc o):=fun o=>(Below.refl _ _).alloc (Nat.le_refl _) o
 by_cases k2:x.kind=2
 ·have q2:(x.kind==2)=true:=by simp[k2]
  have H:Hid (Ja x=Ya x.name):=by simp[Hid,Ja,k2]
  clear k2
  go_enter Tryz.func27,Tryz.ntmps27
  go_wp2_with fail
  refine (Xe8 _ _ hsz).mono ?_
  rintro e w1 ⟨rfl,rfl⟩
  go_wp2_with fail
  go_ret
  exact ⟨Xj H.out.symm,hw1 _⟩
 have q2:(x.kind==2)=false:=by simp[k2]
 by_cases k3:x.kind=3
 ·have q3:(x.kind==3)=true:=by simp[k3]
  have H:Hid (Ja x=(decide (-80≤x.place)&&decide (x.place≤80))):=by simp[Hid,Ja,k3]
  clear k2 k3
  go_enter Tryz.func27,Tryz.ntmps27
  go_wp2_with fail
  all_goals
   go_ret
   refine ⟨Xj ?_,hw1 _⟩
   rw[H.out,Bool.eq_iff_iff]
   simp
   omega
 have q3:(x.kind==3)=false:=by simp[k3]
 by_cases k5:x.kind=5
 ·have q5:(x.kind==5)=true:=by simp[k5]
  have H:Hid (Ja x=Q9 x.cst):=by simp[Hid,Ja,k5]
  clear k2 k3 k5
  go_enter Tryz.func27,Tryz.ntmps27
  go_wp2_with fail
  refine (Xkr B _ x.cst _ (HC.out.below ((hw1 _).mono hB)) (by simp;omega)).mono ?_
  rintro e w1 ⟨rfl,hb1⟩
  go_wp2_with fail
  go_ret
  exact ⟨Xj H.out.symm,(hw1 _).trans (hb1.mono (by simp))⟩
 have q5:(x.kind==5)=false:=by simp[k5]
 by_cases k9:x.kind=9
 ·have q9:(x.kind==9)=true:=by simp[k9]
  have H:Hid (Ja x=Z2 x.names):=by simp[Hid,Ja,k9]
  clear k2 k3 k5 k9
  go_enter Tryz.func27,Tryz.ntmps27
  go_wp2_with fail
  refine (Xkq B _ x.names _ (HK.out.below ((hw1 _).mono hB))).mono ?_
  rintro e w1 ⟨rfl,rfl⟩
  go_wp2_with fail
  go_ret
  exact ⟨Xj H.out.symm,hw1 _⟩
 have q9:(x.kind==9)=false:=by simp[k9]
 have H:Hid (Ja x=true):=by simp[Hid,Ja,k2,k3,k5,k9]
 clear k2 k3 k5 k9
 go_enter Tryz.func27,Tryz.ntmps27
 go_wp2_with fail
 go_ret
 exact ⟨Xj H.out.symm,hw1 _⟩
theorem Xd4 (B:Nat) (x:FN) (kc kn ki:Value) (w:World) (h:FNodeIn B w x kc kn ki):
  Calls Tryz.prog 28 #[.agg #[.int .i64 x.kind, .string x.name, .int .i64 x.place,kc,kn,ki]] w fun e w'=>e= .returned (.bool (Jk x))∧Below w.heap.size w w':=by
 obtain ⟨_,a0,c0,e0,_⟩:=h.cst
 obtain ⟨_,_,a1,c1,e1,_⟩:=h.names
 obtain ⟨_,_,a2,c2,e2,_⟩:=h.kids
 subst e0 e1 e2
 clear h
 go_enter Tryz.func28,Tryz.ntmps28
 go_wp2_with fail
 all_goals
  go_ret
  refine ⟨Xj ?_,(Below.refl _ _).alloc (Nat.le_refl _) _⟩
  go_light
  simp_all [Jk,kidsN]<;>first|omega|(rw[Bool.eq_iff_iff];simp;done)|(rw[Bool.eq_iff_iff];simp;omega)

set_option maxRecDepth 100000 in
theorem K5 (B:Nat) (v:Value) (fs:List FN) (w:World) (h:FNodesAt B w v fs) (hB:B≤w.heap.size):
  Calls Tryz.prog 11 #[v] w fun e w'=>e= .returned (.bool (okF fs))∧Below w.heap.size w w':=by
 have HE:Hid (Xes fs=okF fs):=Xjn fs
 obtain ⟨hlen,a,cap,rfl,hcell⟩:=h
 by_cases h1:fs.length<1
 ·have HO:Hid (okF fs=false):=Xcc (Or.inl h1)
  have h1':(fs.length:Int)<1:=by omega
  go_enter Tryz.func11,Tryz.ntmps11
  go_wp2_with fail
  go_ret
  exact ⟨Xj HO.out.symm,Below.refl _ _⟩
 by_cases h2:40<fs.length
 ·have HO:Hid (okF fs=false):=Xcc (Or.inr h2)
  have h1':¬(fs.length:Int)<1:=by omega
  have h2':(40:Int)<(fs.length:Int):=by omega
  go_enter Tryz.func11,Tryz.ntmps11
  go_wp2_with fail
  go_ret
  exact ⟨Xj HO.out.symm,Below.refl _ _⟩
 have h1':¬(fs.length:Int)<1:=by omega
 have h2':¬(40:Int)<(fs.length:Int):=by omega
 obtain ⟨b0,o0,rfl,hb0,hc⟩:=hcell (by omega)
 clear hcell
 have hmk:=run_make_row' (P:=Tryz.prog) 46 49 (.slice none 0 0) 24 Tryz.underlying46 Xpv rfl .i64 .i64 fs.length (by omega) (by omega)
 go_enter Tryz.func11,Tryz.ntmps11
 go_wp2_with fail
 clear hmk
 have hr0:(w.alloc (.cells (madeCells #[Value.slice none 0 0] fs.length) 49)).rowIs w.heap.size 49 fs.length (Vu (fun _=>undef) 0):=(World.rowIs_made w _ _ _).congr fun i _=>by simp[Vu]
 have hbz:Below w.heap.size w (w.alloc (.cells (madeCells #[Value.slice none 0 0] fs.length) 49)):=(Below.refl _ _).alloc (Nat.le_refl _) _
 go_loopw [19] (fun i wr=>∃(k:Nat) (KV:Nat→Value),k≤fs.length∧i= .int .i64 k∧wr.rowIs w.heap.size 49 fs.length (Vu KV k)∧(∀j,j<k→Xn (Xi fs j)=true∧IntsAt B w (KV j) (Yx fs j))∧Below w.heap.size w wr) (fun i _=>fs.length-(intOf i).toNat)
 case atStart=>exact ⟨0,_,Nat.zero_le _,rfl,hr0,fun j hj=>by omega,hbz⟩
 case round=>
  obtain ⟨k,KV,hk,rfl,hrow,hall,hbel⟩:=hrel
  have HA:=Xb hall
  have HC:=Xb hc
  clear hall hr0 hbz hc
  by_cases hlt:k<fs.length
  ·obtain ⟨kc,kn,ki,hn⟩:=HC.out k hlt
   have hn':=hn.below (hbel.mono hB) hb0
   have c0:=hn'.c0
   have c1:=hn'.c1
   have c2:=hn'.c2
   have c3:=hn'.c3
   have c4:=hn'.c4
   have c5:=hn'.c5
   have hin:=Xb hn'.inn
   have hinw:=Xb hn.inn.kids
   have hsize:=hbel.size
   have hlt0:=hrow.lt
   obtain ⟨_,aC,cC,eC,_⟩:=hn'.inn.cst
   obtain ⟨_,_,aK,cK,eK,_⟩:=hn'.inn.names
   obtain ⟨_,_,aI,cI,eI,_⟩:=hn'.inn.kids
   subst eC eK eI
   have HR:=Xb hrow
   clear hn hn' hrow
   obtain ⟨O,hO⟩:∃O,O=Obj.cells #[.int .i64 (Xi fs k).kind, .string (Xi fs k).name, .int .i64 (Xi fs k).place, .slice aC (Xi fs k).cst.length cC, .slice aK (Xi fs k).names.length cK, .slice aI (Xi fs k).kids.length cI] 51:=⟨_,rfl⟩
   have hbx:Below w.heap.size w (wr.alloc O):=hbel.alloc hsize _
   have hba:Below wr.heap.size wr (wr.alloc O):=(Below.refl _ _).alloc (Nat.le_refl _) _
   rw[hO] at hbx hba
   have hinx:=Xb (hin.out.below (hba.mono (by omega)))
   clear hO
   by_cases hz:Gf (Xi fs k)=true
   case neg=>
    have hz':Gf (Xi fs k)=false:=by simpa using hz
    have HO:Hid (okF fs=false):=Xcd hlt (by rw[Xn,hz',Bool.false_and,Bool.false_and])
    clear hz
    go_wp2_with fail
    refine (Xbq B (Xi fs k) _ _ _ _ hinx.out).mono ?_
    rintro e w1 ⟨rfl,hb1⟩
    go_wp2_with fail
    go_ret
    exact ⟨Xj HO.out.symm,hbx.trans (hb1.mono (by simp;omega))⟩
   case pos=>
   go_wp2_with fail
   refine (Xbq B (Xi fs k) _ _ _ _ hinx.out).mono ?_
   rintro e w1 ⟨rfl,hb1⟩
   have hc1:∀o,w1.cell? ⟨wr.heap.size,o,none⟩=_:=fun o=>hb1.cell (p:=⟨wr.heap.size,o,none⟩) (by simp)
   have hz1:=hb1.size
   simp only[World.size_alloc] at hz1
   have hbx1:Below w.heap.size w w1:=hbx.trans (hb1.mono (by simp;omega))
   have hinx1:=Xb (hinx.out.below (hb1.mono (by simp;omega)))
   by_cases ho:Ja (Xi fs k)=true
   case neg=>
    have ho':Ja (Xi fs k)=false:=by simpa using ho
    have HO:Hid (okF fs=false):=Xcd hlt (by rw[Xn,ho',Bool.and_false,Bool.false_and])
    clear ho
    go_wp2_with fail
    refine (Xa8 B (Xi fs k) _ _ _ _ hinx1.out (by omega)).mono ?_
    rintro e w2 ⟨rfl,hb2⟩
    go_wp2_with fail
    go_ret
    exact ⟨Xj HO.out.symm,hbx1.trans (hb2.mono (by omega))⟩
   case pos=>
   go_wp2_with fail
   refine (Xa8 B (Xi fs k) _ _ _ _ hinx1.out (by omega)).mono ?_
   rintro e w2 ⟨rfl,hb2⟩
   have hc2:∀o,w2.cell? ⟨wr.heap.size,o,none⟩=_:=fun o=>(hb2.cell (p:=⟨wr.heap.size,o,none⟩) (by show wr.heap.size<w1.heap.size;omega)).trans (hc1 o)
   have hz2:=hb2.size
   have hbx2:Below w.heap.size w w2:=hbx1.trans (hb2.mono (by omega))
   have hinx2:=Xb (hinx1.out.below (hb2.mono (by omega)))
   have hrow2:w2.rowIs w.heap.size 49 fs.length (Vu KV k):=Vn (Vn (HR.out.alloc _) hb1 (by simp;omega)) hb2 (by omega)
   have HR2:=Xb hrow2
   clear hc1 hrow2
   by_cases hf:Jk (Xi fs k)=true
   case neg=>
    have hf':Jk (Xi fs k)=false:=by simpa using hf
    have HO:Hid (okF fs=false):=Xcd hlt (by rw[Xn,hf',Bool.and_false])
    clear hf
    go_wp2_with fail
    refine (Xd4 B (Xi fs k) _ _ _ _ hinx2.out).mono ?_
    rintro e w3 ⟨rfl,hb3⟩
    go_wp2_with fail
    go_ret
    exact ⟨Xj HO.out.symm,hbx2.trans (hb3.mono (by omega))⟩
   case pos=>
   have HN:Hid (Xn (Xi fs k)=true):=by rw[Hid,Xn,hz,ho,hf];rfl
   go_wp2_with fail
   refine (Xd4 B (Xi fs k) _ _ _ _ hinx2.out).mono ?_
   rintro e w3 ⟨rfl,hb3⟩
   have hc3:∀o,w3.cell? ⟨wr.heap.size,o,none⟩=_:=fun o=>(hb3.cell (p:=⟨wr.heap.size,o,none⟩) (by show wr.heap.size<w2.heap.size;omega)).trans (hc2 o)
   have hbx3:Below w.heap.size w w3:=hbx2.trans (hb3.mono (by omega))
   have hrow3:w3.rowIs w.heap.size 49 fs.length (Vu KV k):=Vn HR2.out hb3 (by omega)
   have hcs:=hrow3.cell hlt
   have hfs:=hrow3.frozen k
   have hnew:=Xb (Xe9 (v:= .slice aI (Xi fs k).kids.length cI) hrow3)
   have hbn:=Xb (hbx3.setCell (p:=⟨w.heap.size,k,none⟩) (Nat.le_refl _) (.slice aI (Xi fs k).kids.length cI))
   have HA2:Hid (∀j,j<k+1→Xn (Xi fs j)=true∧IntsAt B w (if j=k then .slice aI (Xi fs k).kids.length cI else KV j) (Yx fs j)):=fun j hj=>by
    by_cases e:j=k
    ·subst e;rw[if_pos rfl];exact ⟨HN.out,hinw.out⟩
    ·rw[if_neg e];exact HA.out j (by omega)
   clear hrow3 hc2
   go_wp2_with fail
   go_roundw
   case rel=>exact ⟨k+1,_,by omega,by go_num,hnew.out,HA2.out,hbn.out⟩
   case measure=>simp[intOf];omega
  ·obtain rfl:k=fs.length:=by omega
   have HO:Hid (okF fs=Jz (Yx fs) fs.length 12):=HE.out.symm.trans (Xt2 (by omega) (by omega) (fun j hj=>(HA.out j hj).1))
   have hlt0:=hrow.lt
   have HR:=Xb hrow
   clear hrow
   go_wp2_with fail
   refine (Xb0 12 (w.heap.size+1) w.heap.size fs.length (Yx fs) KV _ (by omega) (by omega) (by omega) (by omega) (fun i hi=>⟨?_, ?_⟩)).mono ?_
   ·rw[HR.out.cell hi,Vu,if_pos hi]
   ·exact ((HA.out i hi).2.below (hbel.mono hB)).wide (by omega)
   ·rintro e w1 ⟨rfl,hb1⟩
    go_wp2_with fail
    go_ret
    exact ⟨Xj HO.out.symm,hbel.trans (hb1.mono (by omega))⟩

theorem Kz (c:Nat) (w:World) (hc:c<256):
  Calls Tryz.prog 103 #[.int .u8 c] w fun e w'=>e= .returned (.bool (Yt c))∧w'=w:=by
 go_enter Tryz.func103,Tryz.ntmps103
 go_wp2_with fail
 all_goals
  go_ret
  refine ⟨Xj ?_,rfl⟩
  rw[Bool.eq_iff_iff]
  simp[Yt]
  omega
theorem Ux (s:ByteArray) (w:World) (hs:s.size≤140737488355328):
  Calls Tryz.prog 70 #[.string s] w fun e w'=>e= .returned (.bool (Ya s))∧w'=w:=by
 by_cases h0:s.size=0
 ·have hz:(s.toList== [])=true:=by simpa using G7.2 h0
  have H:Hid (Ya s=false):=by simp[Hid,Ya,h0]
  clear h0
  go_enter Tryz.func70,Tryz.ntmps70
  go_wp2
  go_ret
  exact ⟨Xj H.out.symm,rfl⟩
 have hz:(s.toList== [])=false:=by simpa using fun e=>h0 (G7.1 e)
 by_cases h60:60<s.size
 ·have H:Hid (Ya s=false):=by simp[Hid,Ya];omega
  have h':(60:Int)<(s.size:Int):=by omega
  go_enter Tryz.func70,Tryz.ntmps70
  go_wp2
  go_ret
  exact ⟨Xj H.out.symm,rfl⟩
 have h':¬(60:Int)<(s.size:Int):=by omega
 have hp:0<s.size:=by omega
 have hb0:=Ut hp
 cases hl:Yt (Yq s 0)
 ·have H:Hid (Ya s=false):=by rw[Hid,Ya,hl];simp
  have HB:=Xb hb0
  have HL:=Xb hl
  clear hl hb0
  go_enter Tryz.func70,Tryz.ntmps70
  go_wp2_with fail
  refine (Kz _ w (Xdt _)).mono ?_
  rintro e w1 ⟨rfl,rfl⟩
  rw[HB.out,HL.out]
  go_wp2_with fail
  go_ret
  exact ⟨Xj H.out.symm,rfl⟩
 have HB:=Xb hb0
 have HL:=Xb hl
 clear hl hb0
 go_enter Tryz.func70,Tryz.ntmps70
 go_wp2_with fail
 refine (Kz _ w (Xdt _)).mono ?_
 rintro e w1 ⟨rfl,rfl⟩
 rw[HB.out,HL.out]
 go_wp2_with fail
 go_loopw [3] (fun i wr=>∃k:Nat,k≤s.size∧i= .int .i64 k∧Hid (∀j,j<k→(Yt (Yq s j)||Zk (Yq s j))=true)∧wr=w1) (fun i _=>s.size-(intOf i).toNat)
 case atStart=>exact ⟨0,Nat.zero_le _,rfl,fun j h=>absurd h (by omega),rfl⟩
 case round =>
  obtain ⟨k,hk,rfl,HA,rfl⟩:=hrel
  by_cases hlt:k<s.size
  ·have hbk:=Xb (Ut hlt)
   have HYES:Hid ((Yt (Yq s k)||Zk (Yq s k))=true→∀j,j<k+1→(Yt (Yq s j)||Zk (Yq s j))=true):=fun hc j hj=>by
    by_cases e:j=k
    ·subst e;exact hc
    ·exact HA.out j (by omega)
   have HNO:Hid ((Yt (Yq s k)||Zk (Yq s k))=false→Ya s=false):=fun hc=>Xir hlt hc
   go_wp2_with fail
   refine (Kz _ _ (Xdt _)).mono ?_
   rintro e w2 ⟨rfl,rfl⟩
   rw[hbk.out]
   cases hc:Yt (Yq s k)
   ·have HLC:=Xb hc
    clear hc
    by_cases d1:s[k].toNat<48
    ·have d1':(s[k].toNat:Int)<48:=by omega
     have H:Hid (Ya s=false):=HNO.out (by rw[HLC.out,Bool.false_or,←hbk.out];unfold Zk;simp;omega)
     go_wp2_with fail
     go_ret
     exact ⟨Xj H.out.symm,rfl⟩
    ·have d1':¬(s[k].toNat:Int)<48:=by omega
     by_cases d2:57<s[k].toNat
     ·have d2':(57:Int)<(s[k].toNat:Int):=by omega
      have H:Hid (Ya s=false):=HNO.out (by rw[HLC.out,Bool.false_or,←hbk.out];unfold Zk;simp;omega)
      go_wp2_with fail
      go_ret
      exact ⟨Xj H.out.symm,rfl⟩
     ·have d2':¬(57:Int)<(s[k].toNat:Int):=by omega
      have HA2:=Xb (HYES.out (by rw[HLC.out,Bool.false_or,←hbk.out];unfold Zk;simp;omega))
      go_wp2_with fail
      go_roundw
      case rel=>exact ⟨k+1,by omega,by go_num,HA2,by trivial⟩
      case measure=>simp[intOf];omega
   ·have HA2:=Xb (HYES.out (by rw[hc,Bool.true_or]))
    clear hc
    go_wp2_with fail
    go_roundw
    case rel=>exact ⟨k+1,by omega,by go_num,HA2,by trivial⟩
    case measure=>simp[intOf];omega
  ·have H:Hid (Ya s=true):=Xgw hp (by omega) HL.out (fun j hj=>HA.out j (by omega))
   go_wp2_with fail
   go_ret
   exact ⟨Xj H.out.symm,rfl⟩
theorem X02 {a b:Int} (h:a=b):Ending.returned (.int .i64 a)= .returned (.int .i64 b):=by rw[h]
theorem Xfv (k:Int) (w:World):
  Calls Tryz.prog 69 #[.int .i64 k] w fun e w'=>e= .returned (.int .i64 (kidsN k))∧w'=w:=by
 go_enter Tryz.func69,Tryz.ntmps69
 go_wp2_with fail
 all_goals
  go_ret
  refine ⟨X02 ?_,rfl⟩
  go_light
  simp_all [kidsN]

theorem Xux {k:Int} (h8:k≠8) (h9:k≠9):0≤kidsN k:=by
 unfold kidsN
 split
 ·omega
 ·split
  ·omega
  ·split
   ·omega
   ·split<;>omega
theorem Xz4 {x:FN} (h:inB x.kind 1 23=false):Xn x=false:=by
 have hf:Jk x=false:=by
  unfold inB at h
  unfold Jk
  rw[if_neg,if_neg]
  ·rw[h,Bool.false_and]
  ·rintro e;rw[e] at h;revert h;decide
  ·rintro e;rw[e] at h;revert h;decide
 rw[Xn,hf,Bool.and_false]
theorem Xkc {x:FN} (h:Jk x=false):Xn x=false:=by rw[Xn,h,Bool.and_false]
theorem Xkd {x:FN} (h9:x.kind≠9) (h:0<x.names.length):Xn x=false:=by
 have:Gf x=false:=by unfold Gf;simp[h9,h]
 rw[Xn,this,Bool.false_and,Bool.false_and]
theorem X1k {v:List VN} (h1:v.length=1) (hok:okB v=true):(decide ((Xc v 0).kind≠5)&&decide ((Xc v 0).kind≠6))=decide ((Xc v 0).kind≤4):=by
 have hn:Yb (Xc v 0)=true:=by
  unfold okB at hok
  simp only[Bool.and_eq_true,List.all_eq_true,List.mem_range] at hok
  exact (hok.1.2 0 (by omega)).1
 unfold Yb at hn
 rw[Bool.and_eq_true] at hn
 have hk : (Xc v 0).kind = 1 ∨ (Xc v 0).kind = 5 ∨ (Xc v 0).kind = 2 ∨ (Xc v 0).kind = 3 ∨ (Xc v 0).kind = 4 ∨ (Xc v 0).kind = 6 := by
  have:=hn.2
  unfold Qu at this
  split at this
  ·rename_i h;rcases h with h|h<;>simp[h]
  ·split at this
   ·rename_i h;simp[h]
   ·split at this
    ·rename_i h;simp[h]
    ·split at this
     ·rename_i h;simp[h]
     ·split at this
      ·rename_i h;simp[h]
      ·cases this
 rcases hk with h|h|h|h|h|h<;>rw[h]<;>decide
theorem X1l {x:FN} (h5:x.kind=5) (hf:Jk x=true) (hnm:x.names.length=0):Xn x=(decide (x.name.toList= [])&&decide (x.place=0)&&Q9 x.cst):=by
 rw[Xn,hf,Bool.and_true]
 unfold Gf Ja
 simp[h5,hnm]
theorem Xmo {x:FN} (h5:x.kind≠5) (h9:x.kind≠9) (hf:Jk x=true) (hnm:x.names.length=0):
  Xn x=((if x.kind=2 then Ya x.name else decide (x.name.toList= []))&&(decide (x.cst.length=0)&&(if x.kind=3 then inB x.place (-80) 80 else decide (x.place=0)))):=by
 rw[Xn,hf,Bool.and_true]
 unfold Gf Ja inB
 by_cases h2:x.kind=2
 ·simp[h2,hnm,Bool.and_comm,Bool.and_left_comm]
  cases x.cst<;>simp
 ·by_cases h3:x.kind=3
  ·simp[h3,hnm,Bool.and_assoc]
   cases x.cst<;>simp
  ·simp[h2,h3,h5,h9,hnm,Bool.and_comm,Bool.and_left_comm]
   cases x.cst<;>simp
theorem X05 {x:FN} (h:x.kind=8):Jk x=decide (x.kids.length≤1):=by unfold Jk;rw[if_pos h]
theorem X06 {x:FN} (h:x.kind=9):Jk x=decide (x.kids.length=x.names.length):=by unfold Jk;rw[if_neg (by omega),if_pos h]
theorem X07 {x:FN} (h8:x.kind≠8) (h9:x.kind≠9) (hin:inB x.kind 1 23=true):Jk x=decide ((x.kids.length:Int)=kidsN x.kind):=by
 unfold Jk inB at *
 rw[if_neg h8,if_neg h9,hin,Bool.true_and]
theorem X1m {x:FN} (h9:x.kind=9):Xn x=(decide (x.name.toList= [])&&(decide (x.place=0)&&(decide (x.cst.length=0)&&(Z2 x.names&&decide (x.kids.length=x.names.length))))):=by
 rw[Xn,X06 h9]
 unfold Gf Ja
 simp[h9,Bool.and_assoc]
 cases x.cst<;>simp
set_option maxRecDepth 100000 in
theorem Xop (B:Nat) (x:FN) (kc kn ki:Value) (w:World) (h:FNodeIn B w x kc kn ki) (hB:B≤w.heap.size) (h9:x.kind≠9):
  Calls Tryz.prog 30 #[.agg #[.int .i64 x.kind, .string x.name, .int .i64 x.place,kc,kn,ki]] w fun e w'=>e= .returned (.bool (Xn x))∧Below w.heap.size w w':=by
 have hsz:=h.size
 have HC:=Xb h.cst
 obtain ⟨hcl,a0,c0,e0,hcc⟩:=h.cst
 obtain ⟨hnl,_,a1,c1,e1,_⟩:=h.names
 obtain ⟨hkl,_,a2,c2,e2,_⟩:=h.kids
 subst e0 e1 e2
 have HCC:=Xb hcc
 clear h hcc
 obtain ⟨W1,hW1⟩:∃W1,W1=w.alloc (.cells #[.int .i64 x.kind, .string x.name, .int .i64 x.place, .slice a0 x.cst.length c0, .slice a1 x.names.length c1, .slice a2 x.kids.length c2] 51):=⟨_,rfl⟩
 have d0:W1.cell? ⟨w.heap.size,0,none⟩=some (.int .i64 x.kind):=by rw[hW1];simp
 have d1:W1.cell? ⟨w.heap.size,1,none⟩=some (.string x.name):=by rw[hW1];simp
 have d2:W1.cell? ⟨w.heap.size,2,none⟩=some (.int .i64 x.place):=by rw[hW1];simp
 have d3:W1.cell? ⟨w.heap.size,3,none⟩=some (.slice a0 x.cst.length c0):=by rw[hW1];simp
 have d4:W1.cell? ⟨w.heap.size,4,none⟩=some (.slice a1 x.names.length c1):=by rw[hW1];simp
 have d5:W1.cell? ⟨w.heap.size,5,none⟩=some (.slice a2 x.kids.length c2):=by rw[hW1];simp
 have HZ:Hid (W1.heap.size=w.heap.size+1):=by rw[Hid,hW1];simp
 have HBW:Hid (Below w.heap.size w W1):=by rw[Hid,hW1];exact (Below.refl _ _).alloc (Nat.le_refl _) _
 have HW1:=Xb hW1
 clear hW1
 have H9:=Xb h9
 have q9:(x.kind==9)=false:=by simp[h9]
 have q9':(x.kind !=9)=true:=by simp[h9]
 clear h9
 go_enter Tryz.func30,Tryz.ntmps30
 go_wp2_with fail
 rw[←HW1.out]
 refine (Xfv _ _).mono ?_
 rintro e w1 ⟨rfl,hw1⟩
 subst hw1
 obtain ⟨M,hM⟩:∃M,kidsN x.kind=M:=⟨_,rfl⟩
 rw[hM]
 have HM:=Xb hM
 clear hM
 go_wp2_with fail
 refine (Vg _ _ _ _).mono ?_
 rintro e w1 ⟨rfl,hw1⟩
 subst hw1
 cases hin:inB x.kind 1 23
 ·have H:=Xb (Xz4 hin)
  clear hin
  go_wp2_with fail
  go_ret
  exact ⟨Xj H.out.symm,HBW.out⟩
 have HIN:=Xb hin
 clear hin
 by_cases k8:x.kind=8
 case pos=>
  have q8:(x.kind==8)=true:=by simp[k8]
  have hM:M= -1:=by rw[←HM.out,k8];decide
  subst hM
  have HF:=Xb (X05 k8)
  have k5:x.kind≠5:=by omega
  have q5:(x.kind==5)=false:=by simp[k5]
  have q2:(x.kind==2)=false:=by rw[beq_eq_false_iff_ne];omega
  have q2':(x.kind !=2)=true:=by rw[bne_iff_ne];omega
  have q3:(x.kind==3)=false:=by rw[beq_eq_false_iff_ne];omega
  have HR:Hid (Jk x=true→x.names.length=0→Xn x=(decide (x.name.toList= [])&&(decide (x.cst.length=0)&&decide (x.place=0)))):=fun h1 h2=>by
   rw[Xmo k5 H9.out h1 h2,if_neg (by omega),if_neg (by omega)]
  clear k8 k5
  by_cases hk:1<x.kids.length
  ·have H:Hid (Xn x=false):=Xkc (by rw[HF.out];simp;omega)
   have hk':(1:Int)<(x.kids.length:Int):=by omega
   go_wp2_with fail
   go_ret
   exact ⟨Xj H.out.symm,HBW.out⟩
  have hk':¬(1:Int)<(x.kids.length:Int):=by omega
  by_cases hn:0<x.names.length
  ·have H:=Xb (Xkd H9.out hn)
   have hn':(0:Int)<(x.names.length:Int):=by omega
   go_wp2_with fail
   go_ret
   exact ⟨Xj H.out.symm,HBW.out⟩
  have hn':¬(0:Int)<(x.names.length:Int):=by omega
  have HV:=Xb (HR.out (by rw[HF.out];simp;omega) (by omega))
  go_wp2_with fail
  go_loopw [4] (fun i wr=>i= .int .i64 0∧wr=w1) (fun _ _=>0)
  case atStart=>exact ⟨rfl,rfl⟩
  case round=>
   obtain ⟨rfl,rfl⟩:=hrel
   by_cases e1:x.name.toList= []
   case neg=>
    have p1:(x.name.toList != [])=true:=by simp[e1]
    have p1':(x.name.toList== [])=false:=by simp[e1]
    have H:Hid (Xn x=false):=by rw[Hid,HV.out];simp[e1]
    clear e1
    go_wp2_with fail
    go_ret
    exact ⟨Xj H.out.symm,HBW.out⟩
   case pos=>
   have p1:(x.name.toList != [])=false:=by simp[e1]
   have p1':(x.name.toList== [])=true:=by simp[e1]
   have E1:=Xb e1
   clear e1
   by_cases e2:x.cst.length=0
   case neg=>
    have p2:((x.cst.length:Int)==0)=false:=by rw[beq_eq_false_iff_ne];omega
    have H:Hid (Xn x=false):=by rw[Hid,HV.out];simp[e2]
    clear e2
    go_wp2_with fail
    go_ret
    exact ⟨Xj H.out.symm,HBW.out⟩
   case pos=>
   have p2:((x.cst.length:Int)==0)=true:=by rw[beq_iff_eq];omega
   by_cases e3:x.place=0
   case neg=>
    have p3:(x.place==0)=false:=by simp[e3]
    have H:Hid (Xn x=false):=by rw[Hid,HV.out];simp[e3]
    clear e2 e3
    go_wp2_with fail
    go_ret
    exact ⟨Xj H.out.symm,HBW.out⟩
   case pos=>
   have p3:(x.place==0)=true:=by simp[e3]
   have H:Hid (Xn x=true):=by rw[Hid,HV.out];simp[E1.out,e2,e3]
   clear e2 e3
   go_wp2_with fail
   go_ret
   exact ⟨Xj H.out.symm,HBW.out⟩
 case neg=>
 have q8:(x.kind==8)=false:=by simp[k8]
 have hM0:0≤M:=by rw[←HM.out];exact Xux k8 H9.out
 have HF:Hid (Jk x=decide ((x.kids.length:Int)=M)):=by rw[Hid,←HM.out];exact X07 k8 H9.out HIN.out
 clear k8
 by_cases hk:(x.kids.length:Int)=M
 case neg=>
  have hk':((x.kids.length:Int) !=M)=true:=by rw[bne_iff_ne];exact hk
  have H:Hid (Xn x=false):=Xkc (by rw[HF.out];simp[hk])
  clear hk
  go_wp2_with fail
  go_ret
  exact ⟨Xj H.out.symm,HBW.out⟩
 case pos=>
 have HFT:Hid (Jk x=true):=by rw[Hid,HF.out];simp[hk]
 have hk':((x.kids.length:Int) !=M)=false:=by rw[hk];simp
 have HKM:=Xb hk
 clear hk
 by_cases hn:0<x.names.length
 ·have H:=Xb (Xkd H9.out hn)
  have hn':(0:Int)<(x.names.length:Int):=by omega
  go_wp2_with fail
  go_ret
  exact ⟨Xj H.out.symm,HBW.out⟩
 have hn':¬(0:Int)<(x.names.length:Int):=by omega
 have hn0:x.names.length=0:=by omega
 have HN0:=Xb hn0
 clear hn hn0
 go_wp2_with fail
 go_loopw [4] (fun i wr=>i= .int .i64 0∧wr=w1) (fun _ _=>0)
 case atStart=>exact ⟨rfl,rfl⟩
 case round=>
  obtain ⟨rfl,rfl⟩:=hrel
  by_cases k5:x.kind=5
  case pos=>
   have q5:(x.kind==5)=true:=by simp[k5]
   have HV:=Xb (X1l k5 HFT.out HN0.out)
   clear k5
   by_cases e1:x.name.toList= []
   case neg=>
    have p1':(x.name.toList== [])=false:=by simp[e1]
    have H:Hid (Xn x=false):=by rw[Hid,HV.out];simp[e1]
    clear e1
    go_wp2_with fail
    go_ret
    exact ⟨Xj H.out.symm,HBW.out⟩
   case pos=>
   have p1':(x.name.toList== [])=true:=by simp[e1]
   have E1:=Xb e1
   clear e1
   by_cases e3:x.place=0
   case neg=>
    have p3:(x.place==0)=false:=by simp[e3]
    have H:Hid (Xn x=false):=by rw[Hid,HV.out];simp[e3]
    clear e3
    go_wp2_with fail
    go_ret
    exact ⟨Xj H.out.symm,HBW.out⟩
   case pos=>
   have p3:(x.place==0)=true:=by simp[e3]
   have E3:=Xb e3
   clear e3
   have HV2:Hid (Xn x=Q9 x.cst):=by rw[Hid,HV.out];simp[E1.out,E3.out]
   by_cases e4:x.cst.length=1
   case neg=>
    have p4:((x.cst.length:Int)==1)=false:=by rw[beq_eq_false_iff_ne];omega
    have H:Hid (Xn x=false):=by rw[Hid,HV2.out];simp[Q9,e4]
    clear e4
    go_wp2_with fail
    go_ret
    exact ⟨Xj H.out.symm,HBW.out⟩
   case pos=>
   have p4:((x.cst.length:Int)==1)=true:=by rw[beq_iff_eq];omega
   have hp:0<x.cst.length:=by omega
   have E4:=Xb e4
   clear e4
   obtain ⟨b,o,rfl,hbB,hc⟩:=HCC.out hp
   obtain ⟨ka,kii,hnd⟩:=hc 0 hp
   have g0:=(Xd HBW.out (show b<w.heap.size by omega)).trans hnd.c0
   rw[Nat.zero_mul,Nat.add_zero] at g0
   clear hc hnd
   have HND:=Xb (HC.out.below (HBW.out.mono hB))
   have hzz:B≤wr.heap.size:=by rw[HZ.out];omega
   have HG0:=Xb g0
   have HD3:=Xb d3
   clear g0
   go_wp2_with fail
   refine (Xm9 B _ x.cst wr HND.out hzz).mono ?_
   rintro e w2 ⟨rfl,hb2⟩
   have HB2:=Xb hb2
   have j3:=(Xd hb2 (show w.heap.size<wr.heap.size by rw[HZ.out];omega)).trans HD3.out
   have g1:=(Xd hb2 (show b<wr.heap.size by rw[HZ.out];omega)).trans HG0.out
   have HBX:Hid (Below w.heap.size w w2):=HBW.out.trans (hb2.mono (by rw[HZ.out];omega))
   clear hb2 d0 d1 d2 d3 d4 d5
   cases hok:okB x.cst
   ·have H:Hid (Xn x=false):=by rw[Hid,HV2.out];simp[Q9,hok]
    clear hok
    go_wp2_with fail
    go_ret
    exact ⟨Xj H.out.symm,HBX.out⟩
   ·have HV3:Hid (Xn x=decide ((Xc x.cst 0).kind≤4)):=by
     rw[Hid,HV2.out,←X1k E4.out hok]
     simp[Q9,hok,E4.out]
    clear hok
    go_wp2_with fail
    go_ret
    exact ⟨Xj HV3.out.symm,HBX.out⟩
  case neg=>
  have q5:(x.kind==5)=false:=by simp[k5]
  have HV:=Xb (Xmo k5 H9.out HFT.out HN0.out)
  clear k5
  by_cases k2:x.kind=2
  case pos=>
   have q2:(x.kind==2)=true:=by simp[k2]
   have q2':(x.kind !=2)=false:=by simp[k2]
   have q3:(x.kind==3)=false:=by rw[beq_eq_false_iff_ne];omega
   have HV2:Hid (Xn x=(Ya x.name&&(decide (x.cst.length=0)&&decide (x.place=0)))):=by rw[Hid,HV.out,if_pos k2,if_neg (by omega)]
   clear k2
   go_wp2_with fail
   refine (Ux _ _ hsz).mono ?_
   rintro e w2 ⟨rfl,hw2⟩
   subst hw2
   cases hnm:Ya x.name
   ·have H:Hid (Xn x=false):=by rw[Hid,HV2.out,hnm,Bool.false_and]
    clear hnm
    go_wp2_with fail
    go_ret
    exact ⟨Xj H.out.symm,HBW.out⟩
   have HV3:Hid (Xn x=(decide (x.cst.length=0)&&decide (x.place=0))):=by rw[Hid,HV2.out,hnm,Bool.true_and]
   clear hnm
   by_cases e2:x.cst.length=0
   case neg=>
    have p2:((x.cst.length:Int)==0)=false:=by rw[beq_eq_false_iff_ne];omega
    have H:Hid (Xn x=false):=by rw[Hid,HV3.out];simp[e2]
    clear e2
    go_wp2_with fail
    go_ret
    exact ⟨Xj H.out.symm,HBW.out⟩
   case pos=>
   have p2:((x.cst.length:Int)==0)=true:=by rw[beq_iff_eq];omega
   by_cases e3:x.place=0
   case neg=>
    have p3:(x.place==0)=false:=by simp[e3]
    have H:Hid (Xn x=false):=by rw[Hid,HV3.out];simp[e3]
    clear e2 e3
    go_wp2_with fail
    go_ret
    exact ⟨Xj H.out.symm,HBW.out⟩
   case pos=>
   have p3:(x.place==0)=true:=by simp[e3]
   have H:Hid (Xn x=true):=by rw[Hid,HV3.out];simp[e2,e3]
   clear e2 e3
   go_wp2_with fail
   go_ret
   exact ⟨Xj H.out.symm,HBW.out⟩
  case neg=>
  have q2:(x.kind==2)=false:=by simp[k2]
  have q2':(x.kind !=2)=true:=by simp[k2]
  have HV2:Hid (Xn x=(decide (x.name.toList= [])&&(decide (x.cst.length=0)&&(if x.kind=3 then inB x.place (-80) 80 else decide (x.place=0))))):=by rw[Hid,HV.out,if_neg k2]
  clear k2
  by_cases e1:x.name.toList= []
  case neg=>
   have p1:(x.name.toList != [])=true:=by simp[e1]
   have p1':(x.name.toList== [])=false:=by simp[e1]
   have H:Hid (Xn x=false):=by rw[Hid,HV2.out];simp[e1]
   clear e1
   go_wp2_with fail
   go_ret
   exact ⟨Xj H.out.symm,HBW.out⟩
  case pos=>
  have p1:(x.name.toList != [])=false:=by simp[e1]
  have p1':(x.name.toList== [])=true:=by simp[e1]
  have E1:=Xb e1
  clear e1
  by_cases e2:x.cst.length=0
  case neg=>
   have p2:((x.cst.length:Int)==0)=false:=by rw[beq_eq_false_iff_ne];omega
   have H:Hid (Xn x=false):=by rw[Hid,HV2.out];simp[e2]
   clear e2
   go_wp2_with fail
   go_ret
   exact ⟨Xj H.out.symm,HBW.out⟩
  case pos=>
  have p2:((x.cst.length:Int)==0)=true:=by rw[beq_iff_eq];omega
  have HV3:Hid (Xn x=(if x.kind=3 then inB x.place (-80) 80 else decide (x.place=0))):=by rw[Hid,HV2.out];simp[E1.out,e2]
  clear e2
  by_cases e3:x.place=0
  case pos=>
   have p3:(x.place==0)=true:=by simp[e3]
   have H:Hid (Xn x=true):=by rw[Hid,HV3.out,e3];split<;>decide
   clear e3
   go_wp2_with fail
   go_ret
   exact ⟨Xj H.out.symm,HBW.out⟩
  case neg=>
  have p3:(x.place==0)=false:=by simp[e3]
  have E3:=Xb e3
  clear e3
  by_cases k3:x.kind=3
  case neg=>
   have q3:(x.kind==3)=false:=by simp[k3]
   have H:Hid (Xn x=false):=by rw[Hid,HV3.out,if_neg k3];simp[E3.out]
   clear k3
   go_wp2_with fail
   go_ret
   exact ⟨Xj H.out.symm,HBW.out⟩
  case pos=>
  have q3:(x.kind==3)=true:=by simp[k3]
  have HV4:Hid (Xn x=inB x.place (-80) 80):=by rw[Hid,HV3.out,if_pos k3]
  clear k3
  go_wp2_with fail
  refine (Vg _ _ _ _).mono ?_
  rintro e w2 ⟨rfl,hw2⟩
  subst hw2
  go_wp2_with fail
  go_ret
  exact ⟨Xj HV4.out.symm,HBW.out⟩
set_option maxRecDepth 100000 in
theorem Xoq (B:Nat) (x:FN) (kc kn ki:Value) (w:World) (h:FNodeIn B w x kc kn ki) (hB:B≤w.heap.size) (h9:x.kind=9):
  Calls Tryz.prog 30 #[.agg #[.int .i64 x.kind, .string x.name, .int .i64 x.place,kc,kn,ki]] w fun e w'=>e= .returned (.bool (Xn x))∧Below w.heap.size w w':=by
 have HV:=Xb (X1m h9)
 obtain ⟨hcl,a0,c0,e0,_⟩:=h.cst
 obtain ⟨hnl,hks,a1,c1,e1,hcell⟩:=h.names
 obtain ⟨hkl,_,a2,c2,e2,_⟩:=h.kids
 subst e0 e1 e2
 have HCC:=Xb hcell
 have HKS:=Xb hks
 clear h hcell hks
 obtain ⟨W1,hW1⟩:∃W1,W1=w.alloc (.cells #[.int .i64 x.kind, .string x.name, .int .i64 x.place, .slice a0 x.cst.length c0, .slice a1 x.names.length c1, .slice a2 x.kids.length c2] 51):=⟨_,rfl⟩
 have d0:W1.cell? ⟨w.heap.size,0,none⟩=some (.int .i64 x.kind):=by rw[hW1];simp
 have d1:W1.cell? ⟨w.heap.size,1,none⟩=some (.string x.name):=by rw[hW1];simp
 have d2:W1.cell? ⟨w.heap.size,2,none⟩=some (.int .i64 x.place):=by rw[hW1];simp
 have d3:W1.cell? ⟨w.heap.size,3,none⟩=some (.slice a0 x.cst.length c0):=by rw[hW1];simp
 have d4:W1.cell? ⟨w.heap.size,4,none⟩=some (.slice a1 x.names.length c1):=by rw[hW1];simp
 have d5:W1.cell? ⟨w.heap.size,5,none⟩=some (.slice a2 x.kids.length c2):=by rw[hW1];simp
 have HZ:Hid (W1.heap.size=w.heap.size+1):=by rw[Hid,hW1];simp
 have HBW:Hid (Below w.heap.size w W1):=by rw[Hid,hW1];exact (Below.refl _ _).alloc (Nat.le_refl _) _
 have HW1:=Xb hW1
 clear hW1
 have HK:=Xb h9
 have q9:(x.kind==9)=true:=by simp[h9]
 have q9':(x.kind !=9)=false:=by simp[h9]
 have q8:(x.kind==8)=false:=by rw[beq_eq_false_iff_ne];omega
 have q5:(x.kind==5)=false:=by rw[beq_eq_false_iff_ne];omega
 have q2:(x.kind==2)=false:=by rw[beq_eq_false_iff_ne];omega
 have q2':(x.kind !=2)=true:=by rw[bne_iff_ne];omega
 have q3:(x.kind==3)=false:=by rw[beq_eq_false_iff_ne];omega
 clear h9
 go_enter Tryz.func30,Tryz.ntmps30
 go_wp2_with fail
 rw[←HW1.out]
 refine (Xfv _ _).mono ?_
 rintro e w1 ⟨rfl,hw1⟩
 subst hw1
 have HM:Hid (kidsN x.kind= -1):=by rw[Hid,HK.out];decide
 rw[HM.out]
 go_wp2_with fail
 refine (Vg _ _ _ _).mono ?_
 rintro e w1 ⟨rfl,hw1⟩
 subst hw1
 have HIN:Hid (inB x.kind 1 23=true):=by rw[Hid,HK.out];decide
 rw[HIN.out]
 by_cases hk:5<x.kids.length
 ·have H:Hid (Xn x=false):=by
   rw[Hid,HV.out]
   by_cases e:x.kids.length=x.names.length
   ·have:Z2 x.names=false:=by simp[Z2];omega
    simp[this]
   ·simp[e]
  have hk':(5:Int)<(x.kids.length:Int):=by omega
  go_wp2_with fail
  all_goals
   go_ret
   exact ⟨Xj H.out.symm,HBW.out⟩
 have hk':¬(5:Int)<(x.kids.length:Int):=by omega
 have HLE:Hid (Xn x=false∨x.kids.length=x.names.length):=by
  by_cases e:x.kids.length=x.names.length
  ·exact Or.inr e
  ·left;rw[HV.out];simp[e]
 by_cases hn:0<x.names.length
 case neg =>
  have hn':¬(0:Int)<(x.names.length:Int):=by omega
  have HNR:Hid (Gt x.names=true):=Xd7 (fun j hj=>absurd hj (by omega))
  go_wp2_with fail
  go_loopw [4] (fun i wr=>i= .int .i64 0∧wr=w1) (fun _ _=>0)
  case atStart=>exact ⟨rfl,rfl⟩
  case round=>
    obtain ⟨rfl,rfl⟩:=hrel
    have HBX:=HBW
    by_cases e0:x.names.length=x.kids.length
    case neg=>
     have p0:((x.names.length:Int) !=(x.kids.length:Int))=true:=by rw[bne_iff_ne];omega
     have H:Hid (Xn x=false):=by
      rcases HLE.out with e|e
      ·exact e
      ·exact absurd e.symm e0
     clear e0
     go_wp2_with fail
     go_ret
     exact ⟨Xj H.out.symm,HBX.out⟩
    case pos=>
    have p0:((x.names.length:Int) !=(x.kids.length:Int))=false:=by rw[e0];simp
    have HV2:Hid (Xn x=(decide (x.name.toList= [])&&(decide (x.place=0)&&decide (x.cst.length=0)))):=by
     have h5:x.names.length≤5:=by omega
     rw[Hid,HV.out,Z2,HNR.out]
     simp[e0.symm,h5]
    clear e0
    by_cases e1:x.name.toList= []
    case neg=>
     have p1:(x.name.toList != [])=true:=by simp[e1]
     have p1':(x.name.toList== [])=false:=by simp[e1]
     have H:Hid (Xn x=false):=by rw[Hid,HV2.out];simp[e1]
     clear e1
     go_wp2_with fail
     go_ret
     exact ⟨Xj H.out.symm,HBX.out⟩
    case pos=>
    have p1:(x.name.toList != [])=false:=by simp[e1]
    have p1':(x.name.toList== [])=true:=by simp[e1]
    have E1:=Xb e1
    clear e1
    by_cases e2:x.cst.length=0
    case neg=>
     have p2:((x.cst.length:Int)==0)=false:=by rw[beq_eq_false_iff_ne];omega
     have H:Hid (Xn x=false):=by rw[Hid,HV2.out];simp[e2]
     clear e2
     go_wp2_with fail
     go_ret
     exact ⟨Xj H.out.symm,HBX.out⟩
    case pos=>
    have p2:((x.cst.length:Int)==0)=true:=by rw[beq_iff_eq];omega
    by_cases e3:x.place=0
    case neg=>
     have p3:(x.place==0)=false:=by simp[e3]
     have H:Hid (Xn x=false):=by rw[Hid,HV2.out];simp[e3]
     clear e2 e3
     go_wp2_with fail
     go_ret
     exact ⟨Xj H.out.symm,HBX.out⟩
    case pos=>
    have p3:(x.place==0)=true:=by simp[e3]
    have H:Hid (Xn x=true):=by rw[Hid,HV2.out];simp[E1.out,e2,e3]
    clear e2 e3
    go_wp2_with fail
    go_ret
    exact ⟨Xj H.out.symm,HBX.out⟩
 case pos=>
 have hn':(0:Int)<(x.names.length:Int):=by omega
 go_wp2_with fail
 clear hn hn'
 go_loopw [4] (fun i wr=>∃k:Nat,k≤x.names.length∧i= .int .i64 k∧Hid (∀j,j<k→Q4 x.names j=true)∧Below (w.heap.size+1) w1 wr) (fun i _=>x.names.length-(intOf i).toNat)
 case atStart=>exact ⟨0,Nat.zero_le _,rfl,fun j hj=>absurd hj (by omega),Below.refl _ _⟩
 case round =>
  obtain ⟨k,hkl2,rfl,HR,hbel⟩:=hrel
  have f0:=(Xd (o:=0) hbel (Nat.lt_succ_self _)).trans d0
  have f1:=(Xd (o:=1) hbel (Nat.lt_succ_self _)).trans d1
  have f2:=(Xd (o:=2) hbel (Nat.lt_succ_self _)).trans d2
  have f3:=(Xd (o:=3) hbel (Nat.lt_succ_self _)).trans d3
  have f4:=(Xd (o:=4) hbel (Nat.lt_succ_self _)).trans d4
  have f5:=(Xd (o:=5) hbel (Nat.lt_succ_self _)).trans d5
  have HBX:Hid (Below w.heap.size w wr):=HBW.out.trans (hbel.mono (by omega))
  by_cases hlt:k<x.names.length
  ·obtain ⟨b,o,rfl,hbB,hc⟩:=HCC.out (by omega)
   have hck:wr.cell? ⟨b,o+k,none⟩=some (.string (Xt x.names k)):=(Xd (o:=o+k) HBX.out (by omega)).trans (hc k hlt)
   have hs:=HKS.out k hlt
   have HFL:Hid (Q4 x.names k=false→Xn x=false):=fun e=>by
    rw[HV.out,Z2,Xde hlt e]
    simp
   have HTR:Hid (Q4 x.names k=true→∀j,j<k+1→Q4 x.names j=true):=fun e j hj=>by
    by_cases g:j=k
    ·subst g;exact e
    ·exact HR.out j (by omega)
   by_cases ht:Ya (Xt x.names k)=true
   ·by_cases h0:k=0
    ·have HR2:=Xb (HTR.out (by unfold Q4;rw[ht];simp[h0]))
     have hd:decide ((0:Int)<(k:Int))=false:=by simp;omega
     have hd2:decide (0<k)=false:=by simp;omega
     have HX:Hid (k=0):=h0
     clear hc h0
     go_wp2_with fail
     go_quiet ((go_at_call 70;exact Calls.quiet_of_same (Ux _ _ hs)))
     go_wp2_with fail
     go_roundw
     case rel=>exact ⟨k+1,by omega,by go_num,HR2,below_drewN hbel nq⟩
     case measure=>simp[intOf];omega
    ·have hpos:(0:Int)<(k:Int):=by omega
     have hcm:wr.cell? ⟨b,o+(k-1),none⟩=some (.string (Xt x.names (k-1))):=(Xd (o:=o+(k-1)) HBX.out (by omega)).trans (hc (k-1) (by omega))
     have hd1:decide ((0:Int)<(k:Int))=true:=by simp;omega
     have hd2:decide (0<k)=true:=by simp;omega
     have hd3:0<k:=by omega
     have pw:IntKind.i64.wrap ((k:Int)-1)=(k:Int)-1:=by rw[IntKind.wrap_i64];omega
     have p0:((k:Int)-1).toNat=k-1:=by omega
     have p1:0≤(k:Int)-1:=by omega
     have p2:(k:Int)-1<(x.names.length:Int):=by omega
     have p3:(1:Int)≤(k:Int):=by omega
     have p4:1≤k:=by omega
     have p5:(k:Int)<(x.names.length:Int)+1:=by omega
     have p6:(k:Int)≤(x.names.length:Int):=by omega
     have p7:k≤x.names.length:=by omega
     have p8:k<x.names.length+1:=by omega
     by_cases hl:Op.bytesLess (Xt x.names (k-1)).toList (Xt x.names k).toList=true
     ·have HR2:=Xb (HTR.out (by unfold Q4;rw[ht];simp[Xa6,hl]))
      clear hc
      go_wp2_with fail
      go_quiet ((go_at_call 70;exact Calls.quiet_of_same (Ux _ _ hs)))
      go_wp2_with fail
      go_roundw
      case rel=>exact ⟨k+1,by omega,by go_num,HR2,below_drewN hbel nq⟩
      case measure=>simp[intOf];omega
     ·have H:=Xb (HFL.out (by unfold Q4;rw[ht];simp[Xa6,hl];omega))
      have hl':Op.bytesLess (Xt x.names (k-1)).toList (Xt x.names k).toList=false:=by simpa using hl
      clear hc hl
      go_wp2_with fail
      go_quiet ((go_at_call 70;exact Calls.quiet_of_same (Ux _ _ hs)))
      go_wp2_with fail
      go_ret
      exact ⟨Xj H.out.symm,below_drewN HBX.out nq⟩
   ·have ht':Ya (Xt x.names k)=false:=by simpa using ht
    have H:=Xb (HFL.out (by unfold Q4;rw[ht',Bool.false_and]))
    clear hc ht
    go_wp2_with fail
    go_quiet ((go_at_call 70;exact Calls.quiet_of_same (Ux _ _ hs)))
    go_wp2_with fail
    go_ret
    exact ⟨Xj H.out.symm,below_drewN HBX.out nq⟩
  ·obtain rfl:k=x.names.length:=by omega
   have HNR:=Xb (Xd7 HR.out)
   by_cases e0:x.names.length=x.kids.length
   case neg=>
    have p0:((x.names.length:Int) !=(x.kids.length:Int))=true:=by rw[bne_iff_ne];omega
    have H:Hid (Xn x=false):=by
     rcases HLE.out with e|e
     ·exact e
     ·exact absurd e.symm e0
    clear e0
    go_wp2_with fail
    go_ret
    exact ⟨Xj H.out.symm,HBX.out⟩
   case pos=>
   have p0:((x.names.length:Int) !=(x.kids.length:Int))=false:=by rw[e0];simp
   have HV2:Hid (Xn x=(decide (x.name.toList= [])&&(decide (x.place=0)&&decide (x.cst.length=0)))):=by
    have h5:x.names.length≤5:=by omega
    rw[Hid,HV.out,Z2,HNR.out]
    simp[e0.symm,h5]
   clear e0
   by_cases e1:x.name.toList= []
   case neg=>
    have p1:(x.name.toList != [])=true:=by simp[e1]
    have p1':(x.name.toList== [])=false:=by simp[e1]
    have H:Hid (Xn x=false):=by rw[Hid,HV2.out];simp[e1]
    clear e1
    go_wp2_with fail
    go_ret
    exact ⟨Xj H.out.symm,HBX.out⟩
   case pos=>
   have p1:(x.name.toList != [])=false:=by simp[e1]
   have p1':(x.name.toList== [])=true:=by simp[e1]
   have E1:=Xb e1
   clear e1
   by_cases e2:x.cst.length=0
   case neg=>
    have p2:((x.cst.length:Int)==0)=false:=by rw[beq_eq_false_iff_ne];omega
    have H:Hid (Xn x=false):=by rw[Hid,HV2.out];simp[e2]
    clear e2
    go_wp2_with fail
    go_ret
    exact ⟨Xj H.out.symm,HBX.out⟩
   case pos=>
   have p2:((x.cst.length:Int)==0)=true:=by rw[beq_iff_eq];omega
   by_cases e3:x.place=0
   case neg=>
    have p3:(x.place==0)=false:=by simp[e3]
    have H:Hid (Xn x=false):=by rw[Hid,HV2.out];simp[e3]
    clear e2 e3
    go_wp2_with fail
    go_ret
    exact ⟨Xj H.out.symm,HBX.out⟩
   case pos=>
   have p3:(x.place==0)=true:=by simp[e3]
   have H:Hid (Xn x=true):=by rw[Hid,HV2.out];simp[E1.out,e2,e3]
   clear e2 e3
   go_wp2_with fail
   go_ret
   exact ⟨Xj H.out.symm,HBX.out⟩
theorem Xke (B:Nat) (x:FN) (kc kn ki:Value) (w:World) (h:FNodeIn B w x kc kn ki) (hB:B≤w.heap.size):
  Calls Tryz.prog 30 #[.agg #[.int .i64 x.kind, .string x.name, .int .i64 x.place,kc,kn,ki]] w fun e w'=>e= .returned (.bool (Xn x))∧Below w.heap.size w w':=by
 by_cases h9:x.kind=9
 ·exact Xoq B x kc kn ki w h hB h9
 ·exact Xop B x kc kn ki w h hB h9

set_option maxRecDepth 100000 in
theorem Xn3 (B:Nat) (v:Value) (vs:List FN) (N:Nat):∀(n:Nat) (w:World),n<N→n<vs.length→FNodesAt B w v vs→
  Calls Tryz.prog 32 #[v, .int .i64 n] w fun e w'=>e= .returned (.tuple #[.int .i64 (trF (tr (Yx vs) n)), .int .i64 (trD (tr (Yx vs) n))])∧w'=w:=by
 induction N with
 |zero=>intro n w h;omega
 | succ N ih =>
  intro n w hN hn hv
  have HV:Hid (FNodesAt B w v vs):=hv
  have IH:=Xb ih
  clear ih
  obtain ⟨hlen,a,cap,rfl,hcell⟩:=hv
  obtain ⟨b0,o0,rfl,hb0,hc⟩:=hcell (by omega)
  obtain ⟨kc,ka,ki,hnode⟩:=hc n hn
  have hc4:=hnode.c5
  obtain ⟨hkl,hkb,ak,ck,rfl,hkc⟩:=hnode.inn.kids
  clear hcell hc hnode
  have HK:Hid (Yx vs n=(Xi vs n).kids):=Xb rfl
  generalize (Xi vs n).kids=kids at *
  generalize Yx vs=K at *
  go_enter Tryz.func32,Tryz.ntmps32
  go_wp2_with fail
  go_loopw [6,7,8] (fun t d i wr=>∃(r b h:Nat) (z:Int),r≤kids.length∧i= .int .i64 z∧z=(r:Int)-1∧t= .int .i64 ((b:Int)-1)∧d= .int .i64 h∧b≤n∧h≤n∧Hid (K8 (tr K) kids n r=some (b,h))∧wr=w) (fun _ _ i _=>(intOf i+1).toNat)
  case atStart=>exact ⟨kids.length,n,0,_,Nat.le_refl _,rfl,rfl,rfl,rfl,Nat.le_refl _,Nat.zero_le _,Xi2 _ _ _,rfl⟩
  case round =>
   obtain ⟨r,b,h,z,hr,rfl,hz,rfl,rfl,hbn,hhn,HS,rfl⟩:=hrel
   by_cases hr0:r=0
   ·obtain rfl:z= -1:=by omega
    have HT:Hid (tr K n=some (b,h+1)):=Xi3 (by rw[HK.out,←hr0];exact HS.out)
    clear hz
    go_wp2_with fail
    go_ret2
    exact ⟨Vz (by rw[HT.out];simp[trF]) (by rw[HT.out];simp[trD]),rfl⟩
   ·obtain ⟨q,rfl⟩:∃q,r=q+1:=⟨r-1,by omega⟩
    obtain rfl:z=(q:Int):=by omega
    obtain ⟨b1,o1,rfl,hb1,hkc1⟩:=hkc (by omega)
    have hck:=hkc1 q (by omega)
    have hql:q<kids.length:=by omega
    have HQ:Hid (K8 (tr K) kids n q=Xv (tr K) (some (b,h)) (Xk kids q)):=by
     have:=Xda (tr K) kids n q hql
     rw[HS.out] at this
     exact this
    clear hz hkc hkc1 hr0
    by_cases hb:b=0
    ·have HT:Hid (tr K n=none):=Gd (r:=q) (by rw[HK.out];omega) (by rw[HK.out,HQ.out];simp[Xv,hb])
     have hneg:(b:Int)-1<0:=by omega
     go_wp2_with fail
     go_ret2
     exact ⟨Vz (by rw[HT.out];rfl) (by rw[HT.out];rfl),rfl⟩
    ·obtain ⟨m,rfl⟩:∃m,b=m+1:=⟨b-1,by omega⟩
     have hcast:(((m+1:Nat):Int)-1)=(m:Int):=by omega
     rw[hcast]
     have HC:Hid ((((m+1:Nat):Int)-1)=(m:Int)):=hcast
     clear hcast
     have hneg:¬(m:Int)<0:=by omega
     by_cases hkid:Xk kids q=(m:Int)
     ·have hne:(Xk kids q !=(m:Int))=false:=by simp[hkid]
      have HX:Hid (K8 (tr K) kids n q=(tr K m).map (fun p=>(p.1,max h p.2))):=by
       refine HQ.out.trans ?_
       simp[Xv,hkid]
      clear hkid
      go_wp2_with fail
      refine (IH.out m _ (by omega) (by omega) HV.out).mono ?_
      rintro e w' ⟨rfl,rfl⟩
      cases htr:tr K m with
      | none =>
       have HT:Hid (tr K n=none):=Gd (r:=q) (by rw[HK.out];omega) (by rw[HK.out,HX.out,htr];rfl)
       have h1:trF none<0:=by decide
       simp only[trF,trD]
       go_wp2_with fail
       go_ret2
       exact ⟨Vz (by rw[HT.out];rfl) (by rw[HT.out];rfl),rfl⟩
      | some p =>
       obtain ⟨p1,p2⟩:=p
       have hd:=Xf8 m _ htr
       have HY:Hid (K8 (tr K) kids n q=some (p1,max h p2)):=HX.out.trans (by rw[htr];rfl)
       simp only[trF,trD]
       simp only at hd
       have h0:¬(p1:Int)<0:=by omega
       clear htr
       go_wp2_with fail
       go_roundw
       case rel=>exact ⟨q,p1,max h p2,_,by omega,rfl,rfl,rfl,by first|rw[Xp7]|(congr 1;omega),by omega,by omega,HY,by trivial⟩
       case measure=>simp[intOf]
     ·have hne:(Xk kids q !=(m:Int))=true:=by simp[hkid]
      have HT:Hid (tr K n=none):=Gd (r:=q) (by rw[HK.out];omega) (by rw[HK.out,HQ.out];simp[Xv,hkid])
      clear hkid
      go_wp2_with fail
      go_ret2
      exact ⟨Vz (by rw[HT.out];rfl) (by rw[HT.out];rfl),rfl⟩
set_option maxRecDepth 100000 in
theorem Vd (B : Nat) (v : Value) (vs : List FN) (w : World) (h : FNodesAt B w v vs) (hB : B ≤ w.heap.size) :
  Calls Tryz.prog 12 #[v] w fun e w'=>e= .returned (.bool (okF vs))∧Below w.heap.size w w':=by
 have HV:Hid (FNodesAt B w v vs):=h
 obtain ⟨hlen,a,cap,rfl,hcell⟩:=h
 by_cases h1:vs.length<1
 ·have HO:Hid (okF vs=false):=Xcc (Or.inl h1)
  have h1':(vs.length:Int)<1:=by omega
  go_enter Tryz.func12,Tryz.ntmps12
  go_wp2_with fail
  go_ret
  exact ⟨Xj HO.out.symm,Below.refl _ _⟩
 by_cases h2:40<vs.length
 ·have HO:Hid (okF vs=false):=Xcc (Or.inr h2)
  have h1':¬(vs.length:Int)<1:=by omega
  have h2':(40:Int)<(vs.length:Int):=by omega
  go_enter Tryz.func12,Tryz.ntmps12
  go_wp2_with fail
  go_ret
  exact ⟨Xj HO.out.symm,Below.refl _ _⟩
 have h1':¬(vs.length:Int)<1:=by omega
 have h2':¬(40:Int)<(vs.length:Int):=by omega
 obtain ⟨b0,o0,rfl,hb0,hc⟩:=hcell (by omega)
 clear hcell
 go_enter Tryz.func12,Tryz.ntmps12
 go_wp2_with fail
 go_loopw [3] (fun i wr=>∃k:Nat,k≤vs.length∧i= .int .i64 k∧(∀j,j<k→Xn (Xi vs j)=true∧Jl vs j=true)∧Below w.heap.size w wr) (fun i _=>vs.length-(intOf i).toNat)
 case atStart=>exact ⟨0,Nat.zero_le _,rfl,fun j hj=>by omega,Below.refl _ _⟩
 case round =>
  obtain ⟨k,hk,rfl,hall,hbel⟩:=hrel
  have HA:=Xb hall
  clear hall
  by_cases hlt:k<vs.length
  ·obtain ⟨kc,ka,ki,hn⟩:=hc k hlt
   have hn':=hn.below (hbel.mono hB) hb0
   have c0:=hn'.c0
   have c1:=hn'.c1
   have c2:=hn'.c2
   have c3:=hn'.c3
   have c4:=hn'.c4
   have c5:=hn'.c5
   have hin:=Xb hn'.inn
   have hsize:=hbel.size
   have HC:=Xb hc
   clear hc hn hn'
   go_wp2_with fail
   refine (Xke B (Xi vs k) kc ka ki _ hin.out (by omega)).mono ?_
   rintro e w1 ⟨rfl,hb1⟩
   have hbel1:Below w.heap.size w w1:=hbel.trans (hb1.mono hsize)
   have hnode1:=(hin.out.below (hb1.mono (by omega)))
   have d4:w1.cell? ⟨b0,o0+k *6+5,none⟩=some ki:=(Xd hb1 (by omega)).trans c5
   obtain ⟨hkl,hkb,ak,ck,rfl,hkc⟩:=hnode1.kids
   by_cases hnb:Xn (Xi vs k)=true
   ·have hN:=Xb hnb
    clear hnode1
    go_wp2_with fail
    go_loopw [4] (fun i wr=>∃q:Nat,q≤(Xi vs k).kids.length∧i= .int .i64 q∧(∀j,j<q→inB (Xk (Xi vs k).kids j) 0 ((k:Int)-1)=true)∧wr=w1) (fun i _=>(Xi vs k).kids.length-(intOf i).toNat)
    case atStart=>exact ⟨0,Nat.zero_le _,rfl,fun j hj=>by omega,rfl⟩
    case round=>
     obtain ⟨q,hq,rfl,hin2,rfl⟩:=hrel
     have HI:=Xb hin2
     clear hin2
     by_cases hlq:q<(Xi vs k).kids.length
     ·obtain ⟨b1,o1,rfl,hb1',hkc1⟩:=hkc (by omega)
      have hck:=hkc1 q hlq
      clear hkc1 hkc
      go_wp2_with fail
      refine (Vg _ _ _ _).mono ?_
      rintro e w2 ⟨rfl,rfl⟩
      by_cases hib:inB (Xk (Xi vs k).kids q) 0 ((k:Int)-1)=true
      ·have HI2:Hid (∀j,j<q+1→inB (Xk (Xi vs k).kids j) 0 ((k:Int)-1)=true):=fun j hj=>by
        by_cases e:j=q
        ·subst e;exact hib
        ·exact HI.out j (by omega)
       go_wp2_with fail
       go_roundw
       case rel=>exact ⟨q+1,by omega,by go_num,HI2.out,by trivial⟩
       case measure=>simp[intOf];omega
      ·have hib':inB (Xk (Xi vs k).kids q) 0 ((k:Int)-1)=false:=by simpa using hib
       have HO:Hid (okF vs=false):=Xw8 hlt hlq hib'
       clear hib
       go_wp2_with fail
       go_ret
       exact ⟨Xj HO.out.symm,hbel1⟩
     ·obtain rfl:q=(Xi vs k).kids.length:=by omega
      have HA2:Hid (∀j,j<k+1→Xn (Xi vs j)=true∧Jl vs j=true):=fun j hj=>by
       by_cases e:j=k
       ·subst e;exact ⟨hN.out,Xn1 HI.out⟩
       ·exact HA.out j (by omega)
      go_wp2_with fail
      go_roundw
      case rel=>exact ⟨k+1,by omega,by go_num,HA2.out,hbel1⟩
      case measure=>simp[intOf];omega
   ·have hnb':Xn (Xi vs k)=false:=by simpa using hnb
    have HO:Hid (okF vs=false):=Xcd hlt hnb'
    clear hnb hnode1
    go_wp2_with fail
    go_ret
    exact ⟨Xj HO.out.symm,hbel1⟩
  ·obtain rfl:k=vs.length:=by omega
   have HO:Hid (okF vs=Vw (Yx vs) vs.length 12):=Xy6 (by omega) (by omega) HA.out
   obtain ⟨n,hn⟩:∃n,vs.length=n+1:=⟨vs.length-1,by omega⟩
   have hcast:((vs.length:Int)-1)=(n:Int):=by omega
   have HV':=Xb (HV.out.below (hbel.mono hB))
   have HN:=Xb hn
   have HR:Hid (Vw (Yx vs) vs.length 12=match tr (Yx vs) n with
    |some p=>decide (p.1=0)&&decide ((p.2:Int)≤12)
    |none=>false):=by
    unfold Vw Hid
    rw[show vs.length-1=n by omega]
    rfl
   clear hc hn
   go_wp2_with fail
   refine (Xn3 B _ vs (n+1) n _ (by omega) (by have:=HN.out;omega) HV'.out).mono ?_
   rintro e w1 ⟨rfl,rfl⟩
   cases htr:tr (Yx vs) n with
   | none =>
    have HR2:Hid (Vw (Yx vs) vs.length 12=false):=by rw[Hid,HR.out,htr]
    simp only[trF,trD]
    clear htr
    go_wp2_with fail
    go_ret
    exact ⟨Xj (by rw[HO.out,HR2.out]),hbel⟩
   | some p =>
    obtain ⟨p1,p2⟩:=p
    have HR2:Hid (Vw (Yx vs) vs.length 12=(decide (p1=0)&&decide ((p2:Int)≤12))):=by rw[Hid,HR.out,htr]
    simp only[trF,trD]
    clear htr
    by_cases hp:p1=0
    ·have hq:((p1:Int)==0)=true:=by simp[hp]
     have HP:=Xb hp
     clear hp
     go_wp2_with fail
     go_ret
     exact ⟨Xj (by rw[HO.out,HR2.out];simp[HP.out]),hbel⟩
    ·have hq:((p1:Int)==0)=false:=by simp[hp]
     have HP:=Xb hp
     clear hp
     go_wp2_with fail
     go_ret
     exact ⟨Xj (by rw[HO.out,HR2.out];simp[HP.out]),hbel⟩
end Go.Proofs.YtehihemfepbmfaaGreatDoor
