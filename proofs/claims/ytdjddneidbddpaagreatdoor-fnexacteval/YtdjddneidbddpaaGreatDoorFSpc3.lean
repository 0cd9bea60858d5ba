import Derived.Test.YtdjddneidbddpaaGreatDoorIParts
import Derived.Deep.Light
import Derived.Lib.Strings
import Derived.Laws.Cover1
namespace Go.Proofs.YtdjddneidbddpaaGreatDoor
set_option linter.unusedSectionVars false
set_option maxHeartbeats 6400000
open Go.RowKit
set_option linter.unusedSimpArgs false
set_option linter.unusedVariables false
theorem U2 (c:Nat) (w:World) (hc:c<256):
  Calls Tryz.prog 138 #[.int .u8 c] w fun e w'=>e= .returned (.bool (Jv c))∧w'=w:=by
 go_enter Tryz.func138,Tryz.ntmps138
 go_wp2_with fail
 all_goals
  go_ret
  refine ⟨Xn ?_,rfl⟩
  rw[Bool.eq_iff_iff]
  simp[Jv]
  omega
theorem Xrb (c:Nat) (w:World) (hc:c<256):
  Calls Tryz.prog 172 #[.int .u8 c] w fun e w'=>e= .returned (.bool (Vh c))∧w'=w:=by
 go_enter Tryz.func172,Tryz.ntmps172
 go_wp2_with fail
 all_goals
  go_ret
  refine ⟨Xn ?_,rfl⟩
  rw[Bool.eq_iff_iff]
  simp[Vh]
  omega
theorem Xt7 (c:Nat) (w:World) (hc:c<256):
  Calls Tryz.prog 139 #[.int .u8 c] w fun e w'=>e= .returned (.bool (Jv c||Vh c))∧w'=w:=by
 go_enter Tryz.func139,Tryz.ntmps139
 go_wp2_with fail
 refine (U2 c w hc).mono ?_
 rintro e w1 ⟨rfl,rfl⟩
 cases hl:Jv c
 ·go_wp2_with fail
  refine (Xrb c w1 hc).mono ?_
  rintro e w2 ⟨rfl,rfl⟩
  go_wp2_with fail
  go_ret
  exact ⟨Xn (by rw[hl];rfl),rfl⟩
 ·go_wp2_with fail
  go_ret
  exact ⟨Xn (by rw[hl];rfl),rfl⟩
theorem Xd2 {s:ByteArray}:s.toList= []↔s.size=0:=by
 rw[Lib.toList_data]
 constructor
 ·intro h
  have:=congrArg List.length h
  simpa using this
 ·intro h
  apply List.eq_nil_of_length_eq_zero
  simpa using h
theorem Xnx {s:ByteArray} {j:Nat} (hj:j<s.size) (h:(Jv (Zh s j)||Vh (Zh s j))=false):Y8 s=false:=by
 unfold Y8
 rw[show ((List.range s.size).all fun j=>Jv (Zh s j)||Vh (Zh s j))=false from ?_,Bool.and_false]
 rw[List.all_eq_false]
 exact ⟨j,List.mem_range.2 hj,by rw[h];exact Bool.false_ne_true⟩
theorem Xld {s:ByteArray} (h0:0<s.size) (h1:s.size≤60) (h2:Jv (Zh s 0)=true) (h:∀j,j<s.size→(Jv (Zh s j)||Vh (Zh s j))=true):Y8 s=true:=by
 unfold Y8
 rw[show ((List.range s.size).all fun j=>Jv (Zh s j)||Vh (Zh s j))=true from ?_,h2]
 ·simp[h0,h1]
 ·rw[List.all_eq_true]
  exact fun j hj=>h j (List.mem_range.1 hj)
theorem Xgh (c:UInt8):c.toNat<256:=c.toNat_lt
theorem Xit (s:ByteArray) (w:World) (hs:s.size≤140737488355328):
  Calls Tryz.prog 106 #[.string s] w fun e w'=>e= .returned (.bool (Y8 s))∧w'=w:=by
 by_cases h0:s.size=0
 ·have hz:(s.toList== [])=true:=by simpa using Xd2.2 h0
  have H:Hid (Y8 s=false):=by simp[Hid,Y8,h0]
  clear h0
  go_enter Tryz.func106,Tryz.ntmps106
  go_wp2
  go_ret
  exact ⟨Xn H.out.symm,rfl⟩
 have hz:(s.toList== [])=false:=by simpa using fun e=>h0 (Xd2.1 e)
 by_cases h60:60<s.size
 ·have H:Hid (Y8 s=false):=by simp[Hid,Y8];omega
  have h':(60:Int)<(s.size:Int):=by omega
  go_enter Tryz.func106,Tryz.ntmps106
  go_wp2
  go_ret
  exact ⟨Xn H.out.symm,rfl⟩
 have h':¬(60:Int)<(s.size:Int):=by omega
 have hp:0<s.size:=by omega
 have hb0:=U7 hp
 cases hl:Jv (Zh s 0)
 ·have H:Hid (Y8 s=false):=by rw[Hid,Y8,hl];simp
  have HB:=Xa hb0
  have HL:=Xa hl
  clear hl hb0
  go_enter Tryz.func106,Tryz.ntmps106
  go_wp2_with fail
  refine (U2 _ w (Xgh _)).mono ?_
  rintro e w1 ⟨rfl,rfl⟩
  rw[HB.out,HL.out]
  go_wp2_with fail
  go_ret
  exact ⟨Xn H.out.symm,rfl⟩
 have HB:=Xa hb0
 have HL:=Xa hl
 clear hl hb0
 go_enter Tryz.func106,Tryz.ntmps106
 go_wp2_with fail
 refine (U2 _ w (Xgh _)).mono ?_
 rintro e w1 ⟨rfl,rfl⟩
 rw[HB.out,HL.out]
 go_wp2_with fail
 go_loopw [19] (fun i wr=>∃k:Nat,k≤s.size∧i= .int .i64 k∧Hid (∀j,j<k→(Jv (Zh s j)||Vh (Zh s j))=true)∧wr=w1) (fun i _=>s.size-(intOf i).toNat)
 case atStart=>exact ⟨0,Nat.zero_le _,rfl,fun j h=>absurd h (by omega),rfl⟩
 case round=>
  obtain ⟨k,hk,rfl,HA,rfl⟩:=hrel
  by_cases hlt:k<s.size
  ·have hbk:=Xa (U7 hlt)
   go_wp2_with fail
   refine (Xt7 _ _ (Xgh _)).mono ?_
   rintro e w2 ⟨rfl,rfl⟩
   rw[hbk.out]
   cases hc:(Jv (Zh s k)||Vh (Zh s k))
   ·have H:Hid (Y8 s=false):=Xnx hlt hc
    clear hc
    go_wp2_with fail
    go_ret
    exact ⟨Xn H.out.symm,rfl⟩
   ·have HA2:Hid (∀j,j<k+1→(Jv (Zh s j)||Vh (Zh s j))=true):=fun j hj=>by
     by_cases e:j=k
     ·subst e;exact hc
     ·exact HA.out j (by omega)
    clear hc
    go_wp2_with fail
    go_roundw
    case rel=>exact ⟨k+1,by omega,by go_num,HA2,by trivial⟩
    case measure=>simp[intOf];omega
  ·have H:Hid (Y8 s=true):=Xld hp (by omega) HL.out (fun j hj=>HA.out j (by omega))
   go_wp2_with fail
   go_ret
   exact ⟨Xn H.out.symm,rfl⟩
theorem Xt8 {l:List ByteArray} {k:Nat} (hk:k<l.length) (h:Y8 (Xh l k)=false):Q9 l=false:=by
 unfold Q9
 rw[Xfh hk (by unfold Jc;rw[h,Bool.false_and]),Bool.and_false]
theorem Xwu {l:List ByteArray} (h5:l.length≤5) (h:∀j,j<l.length→Y8 (Xh l j)=true):Q9 l=Q0 l:=by
 unfold Q9
 rw[Xwz,show ((List.range l.length).all fun j=>Y8 (Xh l j))=true from List.all_eq_true.2 (fun j hj=>h j (List.mem_range.1 hj))]
 simp[h5]
theorem Xrc (B:Nat) (v:Value) (l:List ByteArray) (w:World) (h:StrsAt B w v l):
  Calls Tryz.prog 108 #[v] w fun e w'=>e= .returned (.bool (Q9 l))∧w'=w:=by
 have HS:=Xa h
 obtain ⟨hkn,hks,a1,c1,rfl,hcell⟩:=h
 by_cases h5:5<l.length
 ·have H:Hid (Q9 l=false):=by simp[Hid,Q9];omega
  have h':(5:Int)<(l.length:Int):=by omega
  go_enter Tryz.func108,Tryz.ntmps108
  go_wp2_with fail
  go_ret
  exact ⟨Xn H.out.symm,rfl⟩
 have h':¬(5:Int)<(l.length:Int):=by omega
 have HC:=Xa hcell
 clear hcell
 go_enter Tryz.func108,Tryz.ntmps108
 go_wp2_with fail
 go_loopw [10] (fun i wr=>∃k:Nat,k≤l.length∧i= .int .i64 k∧Hid (∀j,j<k→Y8 (Xh l j)=true)∧wr=w) (fun i _=>l.length-(intOf i).toNat)
 case atStart=>exact ⟨0,Nat.zero_le _,rfl,fun j h=>absurd h (by omega),rfl⟩
 case round=>
  obtain ⟨k,hk,rfl,HA,rfl⟩:=hrel
  by_cases hlt:k<l.length
  ·obtain ⟨b,o,rfl,hbB,hc⟩:=HC.out (by omega)
   have hck:=hc k hlt
   have hs:=hks k hlt
   clear hc
   go_wp2_with fail
   refine (Xit _ _ hs).mono ?_
   rintro e w2 ⟨rfl,rfl⟩
   cases hn:Y8 (Xh l k)
   ·have H:Hid (Q9 l=false):=Xt8 hlt hn
    clear hn
    go_wp2_with fail
    go_ret
    exact ⟨Xn H.out.symm,rfl⟩
   ·have HA2:Hid (∀j,j<k+1→Y8 (Xh l j)=true):=fun j hj=>by
     by_cases e:j=k
     ·subst e;exact hn
     ·exact HA.out j (by omega)
    clear hn
    go_wp2_with fail
    go_roundw
    case rel=>exact ⟨k+1,by omega,by go_num,HA2,by trivial⟩
    case measure=>simp[intOf];omega
  ·have H:Hid (Q9 l=Q0 l):=Xwu (by omega) (fun j hj=>HA.out j (by omega))
   go_wp2_with fail
   refine (Xe5 B _ l _ HS.out).mono ?_
   rintro e w2 ⟨rfl,rfl⟩
   go_wp2_with fail
   go_ret
   exact ⟨Xn H.out.symm,rfl⟩
theorem Xrd (B:Nat) (v:Value) (vs:List VN) (w:World) (h:NodesAt B w v vs) (hB:B≤w.heap.size):
  Calls Tryz.prog 107 #[v] w fun e w'=>e= .returned (.bool (Vt vs))∧Below w.heap.size w w':=by
 have HS:=Xa h
 obtain ⟨hkn,a1,c1,rfl,hcell⟩:=h
 by_cases h1:vs.length=1
 ·have HC:=Xa hcell
  clear hcell
  have HL:=Xa h1
  have q1:((vs.length:Int)==1)=true:=by simp[h1]
  have hp:0<vs.length:=by omega
  clear h1
  cases hok:okB vs
  ·have H:Hid (Vt vs=false):=by simp[Hid,Vt,hok]
   have HK:=Xa hok
   clear hok
   go_enter Tryz.func107,Tryz.ntmps107
   go_wp2_with fail
   refine (Wi B _ vs w HS.out hB).mono ?_
   rintro e w1 ⟨rfl,hb⟩
   rw[HK.out]
   go_wp2_with fail
   go_ret
   exact ⟨Xn H.out.symm,hb⟩
  ·have HK:=Xa hok
   have H:Hid (Vt vs=(decide ((Xb vs 0).kind≠5)&&decide ((Xb vs 0).kind≠6))):=by simp[Hid,Vt,HK.out,HL.out]
   clear hok
   obtain ⟨b,o,rfl,hbB,hc⟩:=HC.out hp
   obtain ⟨ka,ki,hn⟩:=hc 0 hp
   have c0:=hn.c0
   clear hc hn
   rw[Nat.zero_mul,Nat.add_zero] at c0
   go_enter Tryz.func107,Tryz.ntmps107
   go_wp2_with fail
   refine (Wi B _ vs w HS.out hB).mono ?_
   rintro e w1 ⟨rfl,hb⟩
   rw[HK.out]
   have d0:=(Xc hb (show b<w.heap.size by omega)).trans c0
   clear c0
   by_cases k5:(Xb vs 0).kind=5
   ·have q5:((Xb vs 0).kind !=5)=false:=by simp[k5]
    have H2:Hid (Vt vs=false):=by rw[Hid,H.out];simp[k5]
    clear k5
    go_wp2_with fail
    go_ret
    exact ⟨Xn H2.out.symm,hb⟩
   ·have q5:((Xb vs 0).kind !=5)=true:=by simp[k5]
    by_cases k6:(Xb vs 0).kind=6
    ·have q6:((Xb vs 0).kind !=6)=false:=by simp[k6]
     have H2:Hid (Vt vs=false):=by rw[Hid,H.out];simp[k6]
     clear k5 k6
     go_wp2_with fail
     go_ret
     exact ⟨Xn H2.out.symm,hb⟩
    ·have q6:((Xb vs 0).kind !=6)=true:=by simp[k6]
     have H2:Hid (Vt vs=true):=by rw[Hid,H.out];simp[k5,k6]
     clear k5 k6
     go_wp2_with fail
     go_ret
     exact ⟨Xn H2.out.symm,hb⟩
 ·have q1:((vs.length:Int)==1)=false:=by rw[beq_eq_false_iff_ne];omega
  have H:Hid (Vt vs=false):=by simp[Hid,Vt,h1]
  clear h1 hcell
  go_enter Tryz.func107,Tryz.ntmps107
  go_wp2_with fail
  go_ret
  exact ⟨Xn H.out.symm,Below.refl _ _⟩
theorem Xdd (B:Nat) (x:FN) (kc kn ki:Value) (w:World) (h:FNodeIn B w x kc kn ki):
  Calls Tryz.prog 60 #[.agg #[.int .i64 x.kind, .string x.name, .int .i64 x.place,kc,kn,ki]] w fun e w'=>e= .returned (.bool (U8 x))∧Below w.heap.size w w':=by
 obtain ⟨_,a0,c0,e0,_⟩:=h.cst
 obtain ⟨_,_,a1,c1,e1,_⟩:=h.names
 obtain ⟨_,_,a2,c2,e2,_⟩:=h.kids
 subst e0 e1 e2
 clear h
 go_enter Tryz.func60,Tryz.ntmps60
 go_wp2_with fail
 all_goals
  go_ret
  refine ⟨Xn ?_,(Below.refl _ _).alloc (Nat.le_refl _) _⟩
  go_light
  simp_all [U8]
theorem Xcs (B:Nat) (x:FN) (kc kn ki:Value) (w:World) (h:FNodeIn B w x kc kn ki) (hB:B≤w.heap.size):
  Calls Tryz.prog 61 #[.agg #[.int .i64 x.kind, .string x.name, .int .i64 x.place,kc,kn,ki]] w fun e w'=>e= .returned (.bool (Ka x))∧Below w.heap.size w w':=by
 have hsz:=h.size
 have HC:=Xa h.cst
 have HK:=Xa h.names
 obtain ⟨_,a0,c0,e0,_⟩:=h.cst
 obtain ⟨_,_,a1,c1,e1,_⟩:=h.names
 obtain ⟨_,_,a2,c2,e2,_⟩:=h.kids
 subst e0 e1 e2
 clear h
 have hw1:∀o,Below w.heap.size w (w.alloc o):=fun o=>(Below.refl _ _).alloc (Nat.le_refl _) o
 by_cases k2:x.kind=2
 ·have q2:(x.kind==2)=true:=by simp[k2]
  have H:Hid (Ka x=Y8 x.name):=by simp[Hid,Ka,k2]
  clear k2
  go_enter Tryz.func61,Tryz.ntmps61
  go_wp2_with fail
  refine (Xit _ _ hsz).mono ?_
  rintro e w1 ⟨rfl,rfl⟩
  go_wp2_with fail
  go_ret
  exact ⟨Xn H.out.symm,hw1 _⟩
 have q2:(x.kind==2)=false:=by simp[k2]
 by_cases k3:x.kind=3
 ·have q3:(x.kind==3)=true:=by simp[k3]
  have H:Hid (Ka x=(decide (-80≤x.place)&&decide (x.place≤80))):=by simp[Hid,Ka,k3]
  clear k2 k3
  go_enter Tryz.func61,Tryz.ntmps61
  go_wp2_with fail
  all_goals
   go_ret
   refine ⟨Xn ?_,hw1 _⟩
   rw[H.out,Bool.eq_iff_iff]
   simp
   omega
 have q3:(x.kind==3)=false:=by simp[k3]
 by_cases k5:x.kind=5
 ·have q5:(x.kind==5)=true:=by simp[k5]
  have H:Hid (Ka x=Vt x.cst):=by simp[Hid,Ka,k5]
  clear k2 k3 k5
  go_enter Tryz.func61,Tryz.ntmps61
  go_wp2_with fail
  refine (Xrd B _ x.cst _ (HC.out.below ((hw1 _).mono hB)) (by simp;omega)).mono ?_
  rintro e w1 ⟨rfl,hb1⟩
  go_wp2_with fail
  go_ret
  exact ⟨Xn H.out.symm,(hw1 _).trans (hb1.mono (by simp))⟩
 have q5:(x.kind==5)=false:=by simp[k5]
 by_cases k9:x.kind=9
 ·have q9:(x.kind==9)=true:=by simp[k9]
  have H:Hid (Ka x=Q9 x.names):=by simp[Hid,Ka,k9]
  clear k2 k3 k5 k9
  go_enter Tryz.func61,Tryz.ntmps61
  go_wp2_with fail
  refine (Xrc B _ x.names _ (HK.out.below ((hw1 _).mono hB))).mono ?_
  rintro e w1 ⟨rfl,rfl⟩
  go_wp2_with fail
  go_ret
  exact ⟨Xn H.out.symm,hw1 _⟩
 have q9:(x.kind==9)=false:=by simp[k9]
 have H:Hid (Ka x=true):=by simp[Hid,Ka,k2,k3,k5,k9]
 clear k2 k3 k5 k9
 go_enter Tryz.func61,Tryz.ntmps61
 go_wp2_with fail
 go_ret
 exact ⟨Xn H.out.symm,hw1 _⟩
theorem Xg2 (B:Nat) (x:FN) (kc kn ki:Value) (w:World) (h:FNodeIn B w x kc kn ki):
  Calls Tryz.prog 62 #[.agg #[.int .i64 x.kind, .string x.name, .int .i64 x.place,kc,kn,ki]] w fun e w'=>e= .returned (.bool (Jw x))∧Below w.heap.size w w':=by
 obtain ⟨_,a0,c0,e0,_⟩:=h.cst
 obtain ⟨_,_,a1,c1,e1,_⟩:=h.names
 obtain ⟨_,_,a2,c2,e2,_⟩:=h.kids
 subst e0 e1 e2
 clear h
 go_enter Tryz.func62,Tryz.ntmps62
 go_wp2_with fail
 all_goals
  go_ret
  refine ⟨Xn ?_,(Below.refl _ _).alloc (Nat.le_refl _) _⟩
  go_light
  simp_all [Jw,kidsN]<;>first|omega|(rw[Bool.eq_iff_iff];simp;done)|(rw[Bool.eq_iff_iff];simp;omega)

set_option maxRecDepth 100000 in
theorem Xhm (B:Nat) (v:Value) (fs:List FN) (w:World) (h:FNodesAt B w v fs) (hB:B≤w.heap.size):
  Calls Tryz.prog 28 #[v] w fun e w'=>e= .returned (.bool (okF fs))∧Below w.heap.size w w':=by
 have HE:Hid (Xn8 fs=okF fs):=X4n fs
 obtain ⟨hlen,a,cap,rfl,hcell⟩:=h
 by_cases h1:fs.length<1
 ·have HO:Hid (okF fs=false):=Xd5 (Or.inl h1)
  have h1':(fs.length:Int)<1:=by omega
  go_enter Tryz.func28,Tryz.ntmps28
  go_wp2_with fail
  go_ret
  exact ⟨Xn HO.out.symm,Below.refl _ _⟩
 by_cases h2:40<fs.length
 ·have HO:Hid (okF fs=false):=Xd5 (Or.inr h2)
  have h1':¬(fs.length:Int)<1:=by omega
  have h2':(40:Int)<(fs.length:Int):=by omega
  go_enter Tryz.func28,Tryz.ntmps28
  go_wp2_with fail
  go_ret
  exact ⟨Xn HO.out.symm,Below.refl _ _⟩
 have h1':¬(fs.length:Int)<1:=by omega
 have h2':¬(40:Int)<(fs.length:Int):=by omega
 obtain ⟨b0,o0,rfl,hb0,hc⟩:=hcell (by omega)
 clear hcell
 have hmk:=run_make_row' (P:=Tryz.prog) 71 73 (.slice none 0 0) 24 Tryz.underlying71 Xx8 rfl .i64 .i64 fs.length (by omega) (by omega)
 go_enter Tryz.func28,Tryz.ntmps28
 go_wp2_with fail
 clear hmk
 have hr0:(w.alloc (.cells (madeCells #[Value.slice none 0 0] fs.length) 73)).rowIs w.heap.size 73 fs.length (Vu (fun _=>undef) 0):=(World.rowIs_made w _ _ _).congr fun i _=>by simp[Vu]
 have hbz:Below w.heap.size w (w.alloc (.cells (madeCells #[Value.slice none 0 0] fs.length) 73)):=(Below.refl _ _).alloc (Nat.le_refl _) _
 go_loopw [19] (fun i wr=>∃(k:Nat) (KV:Nat→Value),k≤fs.length∧i= .int .i64 k∧wr.rowIs w.heap.size 73 fs.length (Vu KV k)∧(∀j,j<k→Xz (Xr fs j)=true∧IntsAt B w (KV j) (Q7 fs j))∧Below w.heap.size w wr) (fun i _=>fs.length-(intOf i).toNat)
 case atStart=>exact ⟨0,_,Nat.zero_le _,rfl,hr0,fun j hj=>by omega,hbz⟩
 case round=>
  obtain ⟨k,KV,hk,rfl,hrow,hall,hbel⟩:=hrel
  have HA:=Xa hall
  have HC:=Xa hc
  clear hall hr0 hbz hc
  by_cases hlt:k<fs.length
  ·obtain ⟨kc,kn,ki,hn⟩:=HC.out k hlt
   have hn':=hn.below (hbel.mono hB) hb0
   have c0:=hn'.c0
   have c1:=hn'.c1
   have c2:=hn'.c2
   have c3:=hn'.c3
   have c4:=hn'.c4
   have c5:=hn'.c5
   have hin:=Xa hn'.inn
   have hinw:=Xa hn.inn.kids
   have hsize:=hbel.size
   have hlt0:=hrow.lt
   obtain ⟨_,aC,cC,eC,_⟩:=hn'.inn.cst
   obtain ⟨_,_,aK,cK,eK,_⟩:=hn'.inn.names
   obtain ⟨_,_,aI,cI,eI,_⟩:=hn'.inn.kids
   subst eC eK eI
   have HR:=Xa hrow
   clear hn hn' hrow
   obtain ⟨O,hO⟩:∃O,O=Obj.cells #[.int .i64 (Xr fs k).kind, .string (Xr fs k).name, .int .i64 (Xr fs k).place, .slice aC (Xr fs k).cst.length cC, .slice aK (Xr fs k).names.length cK, .slice aI (Xr fs k).kids.length cI] 84:=⟨_,rfl⟩
   have hbx:Below w.heap.size w (wr.alloc O):=hbel.alloc hsize _
   have hba:Below wr.heap.size wr (wr.alloc O):=(Below.refl _ _).alloc (Nat.le_refl _) _
   rw[hO] at hbx hba
   have hinx:=Xa (hin.out.below (hba.mono (by omega)))
   clear hO
   by_cases hz:U8 (Xr fs k)=true
   case neg=>
    have hz':U8 (Xr fs k)=false:=by simpa using hz
    have HO:Hid (okF fs=false):=Xd6 hlt (by rw[Xz,hz',Bool.false_and,Bool.false_and])
    clear hz
    go_wp2_with fail
    refine (Xdd B (Xr fs k) _ _ _ _ hinx.out).mono ?_
    rintro e w1 ⟨rfl,hb1⟩
    go_wp2_with fail
    go_ret
    exact ⟨Xn HO.out.symm,hbx.trans (hb1.mono (by simp;omega))⟩
   case pos=>
   go_wp2_with fail
   refine (Xdd B (Xr fs k) _ _ _ _ hinx.out).mono ?_
   rintro e w1 ⟨rfl,hb1⟩
   have hc1:∀o,w1.cell? ⟨wr.heap.size,o,none⟩=_:=fun o=>hb1.cell (p:=⟨wr.heap.size,o,none⟩) (by simp)
   have hz1:=hb1.size
   simp only[World.size_alloc] at hz1
   have hbx1:Below w.heap.size w w1:=hbx.trans (hb1.mono (by simp;omega))
   have hinx1:=Xa (hinx.out.below (hb1.mono (by simp;omega)))
   by_cases ho:Ka (Xr fs k)=true
   case neg=>
    have ho':Ka (Xr fs k)=false:=by simpa using ho
    have HO:Hid (okF fs=false):=Xd6 hlt (by rw[Xz,ho',Bool.and_false,Bool.false_and])
    clear ho
    go_wp2_with fail
    refine (Xcs B (Xr fs k) _ _ _ _ hinx1.out (by omega)).mono ?_
    rintro e w2 ⟨rfl,hb2⟩
    go_wp2_with fail
    go_ret
    exact ⟨Xn HO.out.symm,hbx1.trans (hb2.mono (by omega))⟩
   case pos=>
   go_wp2_with fail
   refine (Xcs B (Xr fs k) _ _ _ _ hinx1.out (by omega)).mono ?_
   rintro e w2 ⟨rfl,hb2⟩
   have hc2:∀o,w2.cell? ⟨wr.heap.size,o,none⟩=_:=fun o=>(hb2.cell (p:=⟨wr.heap.size,o,none⟩) (by show wr.heap.size<w1.heap.size;omega)).trans (hc1 o)
   have hz2:=hb2.size
   have hbx2:Below w.heap.size w w2:=hbx1.trans (hb2.mono (by omega))
   have hinx2:=Xa (hinx1.out.below (hb2.mono (by omega)))
   have hrow2:w2.rowIs w.heap.size 73 fs.length (Vu KV k):=Y3 (Y3 (HR.out.alloc _) hb1 (by simp;omega)) hb2 (by omega)
   have HR2:=Xa hrow2
   clear hc1 hrow2
   by_cases hf:Jw (Xr fs k)=true
   case neg=>
    have hf':Jw (Xr fs k)=false:=by simpa using hf
    have HO:Hid (okF fs=false):=Xd6 hlt (by rw[Xz,hf',Bool.and_false])
    clear hf
    go_wp2_with fail
    refine (Xg2 B (Xr fs k) _ _ _ _ hinx2.out).mono ?_
    rintro e w3 ⟨rfl,hb3⟩
    go_wp2_with fail
    go_ret
    exact ⟨Xn HO.out.symm,hbx2.trans (hb3.mono (by omega))⟩
   case pos=>
   have HN:Hid (Xz (Xr fs k)=true):=by rw[Hid,Xz,hz,ho,hf];rfl
   go_wp2_with fail
   refine (Xg2 B (Xr fs k) _ _ _ _ hinx2.out).mono ?_
   rintro e w3 ⟨rfl,hb3⟩
   have hc3:∀o,w3.cell? ⟨wr.heap.size,o,none⟩=_:=fun o=>(hb3.cell (p:=⟨wr.heap.size,o,none⟩) (by show wr.heap.size<w2.heap.size;omega)).trans (hc2 o)
   have hbx3:Below w.heap.size w w3:=hbx2.trans (hb3.mono (by omega))
   have hrow3:w3.rowIs w.heap.size 73 fs.length (Vu KV k):=Y3 HR2.out hb3 (by omega)
   have hcs:=hrow3.cell hlt
   have hfs:=hrow3.frozen k
   have hnew:=Xa (Xi6 (v:= .slice aI (Xr fs k).kids.length cI) hrow3)
   have hbn:=Xa (hbx3.setCell (p:=⟨w.heap.size,k,none⟩) (Nat.le_refl _) (.slice aI (Xr fs k).kids.length cI))
   have HA2:Hid (∀j,j<k+1→Xz (Xr fs j)=true∧IntsAt B w (if j=k then .slice aI (Xr fs k).kids.length cI else KV j) (Q7 fs j)):=fun j hj=>by
    by_cases e:j=k
    ·subst e;rw[if_pos rfl];exact ⟨HN.out,hinw.out⟩
    ·rw[if_neg e];exact HA.out j (by omega)
   clear hrow3 hc2
   go_wp2_with fail
   go_roundw
   case rel=>exact ⟨k+1,_,by omega,by go_num,hnew.out,HA2.out,hbn.out⟩
   case measure=>simp[intOf];omega
  ·obtain rfl:k=fs.length:=by omega
   have HO:Hid (okF fs=Kj (Q7 fs) fs.length 12):=HE.out.symm.trans (X0a (by omega) (by omega) (fun j hj=>(HA.out j hj).1))
   have hlt0:=hrow.lt
   have HR:=Xa hrow
   clear hrow
   go_wp2_with fail
   refine (Xdk 12 (w.heap.size+1) w.heap.size fs.length (Q7 fs) KV _ (by omega) (by omega) (by omega) (by omega) (fun i hi=>⟨?_, ?_⟩)).mono ?_
   ·rw[HR.out.cell hi,Vu,if_pos hi]
   ·exact ((HA.out i hi).2.below (hbel.mono hB)).wide (by omega)
   ·rintro e w1 ⟨rfl,hb1⟩
    go_wp2_with fail
    go_ret
    exact ⟨Xn HO.out.symm,hbel.trans (hb1.mono (by omega))⟩

theorem Xb6 (c:Nat) (w:World) (hc:c<256):
  Calls Tryz.prog 162 #[.int .u8 c] w fun e w'=>e= .returned (.bool (Jv c))∧w'=w:=by
 go_enter Tryz.func162,Tryz.ntmps162
 go_wp2_with fail
 all_goals
  go_ret
  refine ⟨Xn ?_,rfl⟩
  rw[Bool.eq_iff_iff]
  simp[Jv]
  omega
theorem U5 (s:ByteArray) (w:World) (hs:s.size≤140737488355328):
  Calls Tryz.prog 126 #[.string s] w fun e w'=>e= .returned (.bool (Y8 s))∧w'=w:=by
 by_cases h0:s.size=0
 ·have hz:(s.toList== [])=true:=by simpa using Xd2.2 h0
  have H:Hid (Y8 s=false):=by simp[Hid,Y8,h0]
  clear h0
  go_enter Tryz.func126,Tryz.ntmps126
  go_wp2
  go_ret
  exact ⟨Xn H.out.symm,rfl⟩
 have hz:(s.toList== [])=false:=by simpa using fun e=>h0 (Xd2.1 e)
 by_cases h60:60<s.size
 ·have H:Hid (Y8 s=false):=by simp[Hid,Y8];omega
  have h':(60:Int)<(s.size:Int):=by omega
  go_enter Tryz.func126,Tryz.ntmps126
  go_wp2
  go_ret
  exact ⟨Xn H.out.symm,rfl⟩
 have h':¬(60:Int)<(s.size:Int):=by omega
 have hp:0<s.size:=by omega
 have hb0:=U7 hp
 cases hl:Jv (Zh s 0)
 ·have H:Hid (Y8 s=false):=by rw[Hid,Y8,hl];simp
  have HB:=Xa hb0
  have HL:=Xa hl
  clear hl hb0
  go_enter Tryz.func126,Tryz.ntmps126
  go_wp2_with fail
  refine (Xb6 _ w (Xgh _)).mono ?_
  rintro e w1 ⟨rfl,rfl⟩
  rw[HB.out,HL.out]
  go_wp2_with fail
  go_ret
  exact ⟨Xn H.out.symm,rfl⟩
 have HB:=Xa hb0
 have HL:=Xa hl
 clear hl hb0
 go_enter Tryz.func126,Tryz.ntmps126
 go_wp2_with fail
 refine (Xb6 _ w (Xgh _)).mono ?_
 rintro e w1 ⟨rfl,rfl⟩
 rw[HB.out,HL.out]
 go_wp2_with fail
 go_loopw [3] (fun i wr=>∃k:Nat,k≤s.size∧i= .int .i64 k∧Hid (∀j,j<k→(Jv (Zh s j)||Vh (Zh s j))=true)∧wr=w1) (fun i _=>s.size-(intOf i).toNat)
 case atStart=>exact ⟨0,Nat.zero_le _,rfl,fun j h=>absurd h (by omega),rfl⟩
 case round =>
  obtain ⟨k,hk,rfl,HA,rfl⟩:=hrel
  by_cases hlt:k<s.size
  ·have hbk:=Xa (U7 hlt)
   have HYES:Hid ((Jv (Zh s k)||Vh (Zh s k))=true→∀j,j<k+1→(Jv (Zh s j)||Vh (Zh s j))=true):=fun hc j hj=>by
    by_cases e:j=k
    ·subst e;exact hc
    ·exact HA.out j (by omega)
   have HNO:Hid ((Jv (Zh s k)||Vh (Zh s k))=false→Y8 s=false):=fun hc=>Xnx hlt hc
   go_wp2_with fail
   refine (Xb6 _ _ (Xgh _)).mono ?_
   rintro e w2 ⟨rfl,rfl⟩
   rw[hbk.out]
   cases hc:Jv (Zh s k)
   ·have HLC:=Xa hc
    clear hc
    by_cases d1:s[k].toNat<48
    ·have d1':(s[k].toNat:Int)<48:=by omega
     have H:Hid (Y8 s=false):=HNO.out (by rw[HLC.out,Bool.false_or,←hbk.out];unfold Vh;simp;omega)
     go_wp2_with fail
     go_ret
     exact ⟨Xn H.out.symm,rfl⟩
    ·have d1':¬(s[k].toNat:Int)<48:=by omega
     by_cases d2:57<s[k].toNat
     ·have d2':(57:Int)<(s[k].toNat:Int):=by omega
      have H:Hid (Y8 s=false):=HNO.out (by rw[HLC.out,Bool.false_or,←hbk.out];unfold Vh;simp;omega)
      go_wp2_with fail
      go_ret
      exact ⟨Xn H.out.symm,rfl⟩
     ·have d2':¬(57:Int)<(s[k].toNat:Int):=by omega
      have HA2:=Xa (HYES.out (by rw[HLC.out,Bool.false_or,←hbk.out];unfold Vh;simp;omega))
      go_wp2_with fail
      go_roundw
      case rel=>exact ⟨k+1,by omega,by go_num,HA2,by trivial⟩
      case measure=>simp[intOf];omega
   ·have HA2:=Xa (HYES.out (by rw[hc,Bool.true_or]))
    clear hc
    go_wp2_with fail
    go_roundw
    case rel=>exact ⟨k+1,by omega,by go_num,HA2,by trivial⟩
    case measure=>simp[intOf];omega
  ·have H:Hid (Y8 s=true):=Xld hp (by omega) HL.out (fun j hj=>HA.out j (by omega))
   go_wp2_with fail
   go_ret
   exact ⟨Xn H.out.symm,rfl⟩
theorem X5i {a b:Int} (h:a=b):Ending.returned (.int .i64 a)= .returned (.int .i64 b):=by rw[h]
theorem Xiu (k:Int) (w:World):
  Calls Tryz.prog 125 #[.int .i64 k] w fun e w'=>e= .returned (.int .i64 (kidsN k))∧w'=w:=by
 go_enter Tryz.func125,Tryz.ntmps125
 go_wp2_with fail
 all_goals
  go_ret
  refine ⟨X5i ?_,rfl⟩
  go_light
  simp_all [kidsN]

theorem X1p {k:Int} (h8:k≠8) (h9:k≠9):0≤kidsN k:=by
 unfold kidsN
 split
 ·omega
 ·split
  ·omega
  ·split
   ·omega
   ·split<;>omega
theorem X45 {x:FN} (h:inB x.kind 1 23=false):Xz x=false:=by
 have hf:Jw x=false:=by
  unfold inB at h
  unfold Jw
  rw[if_neg,if_neg]
  ·rw[h,Bool.false_and]
  ·rintro e;rw[e] at h;revert h;decide
  ·rintro e;rw[e] at h;revert h;decide
 rw[Xz,hf,Bool.and_false]
theorem Xpi {x:FN} (h:Jw x=false):Xz x=false:=by rw[Xz,h,Bool.and_false]
theorem Xpj {x:FN} (h9:x.kind≠9) (h:0<x.names.length):Xz x=false:=by
 have:U8 x=false:=by unfold U8;simp[h9,h]
 rw[Xz,this,Bool.false_and,Bool.false_and]
theorem X5q {v:List VN} (h1:v.length=1) (hok:okB v=true):(decide ((Xb v 0).kind≠5)&&decide ((Xb v 0).kind≠6))=decide ((Xb v 0).kind≤4):=by
 have hn:X9 (Xb v 0)=true:=by
  unfold okB at hok
  simp only[Bool.and_eq_true,List.all_eq_true,List.mem_range] at hok
  exact (hok.1.2 0 (by omega)).1
 unfold X9 at hn
 rw[Bool.and_eq_true] at hn
 have hk : (Xb v 0).kind = 1 ∨ (Xb v 0).kind = 5 ∨ (Xb v 0).kind = 2 ∨ (Xb v 0).kind = 3 ∨ (Xb v 0).kind = 4 ∨ (Xb v 0).kind = 6 := by
  have:=hn.2
  unfold Zk at this
  split at this
  ·rename_i h;rcases h with h|h<;>simp[h]
  ·split at this
   ·rename_i h;simp[h]
   ·split at this
    ·rename_i h;simp[h]
    ·split at this
     ·rename_i h;simp[h]
     ·split at this
      ·rename_i h;simp[h]
      ·cases this
 rcases hk with h|h|h|h|h|h<;>rw[h]<;>decide
theorem X5r {x:FN} (h5:x.kind=5) (hf:Jw x=true) (hnm:x.names.length=0):Xz x=(decide (x.name.toList= [])&&decide (x.place=0)&&Vt x.cst):=by
 rw[Xz,hf,Bool.and_true]
 unfold U8 Ka
 simp[h5,hnm]
theorem Xs6 {x:FN} (h5:x.kind≠5) (h9:x.kind≠9) (hf:Jw x=true) (hnm:x.names.length=0):
  Xz x=((if x.kind=2 then Y8 x.name else decide (x.name.toList= []))&&(decide (x.cst.length=0)&&(if x.kind=3 then inB x.place (-80) 80 else decide (x.place=0)))):=by
 rw[Xz,hf,Bool.and_true]
 unfold U8 Ka inB
 by_cases h2:x.kind=2
 ·simp[h2,hnm,Bool.and_comm,Bool.and_left_comm]
  cases x.cst<;>simp
 ·by_cases h3:x.kind=3
  ·simp[h3,hnm,Bool.and_assoc]
   cases x.cst<;>simp
  ·simp[h2,h3,h5,h9,hnm,Bool.and_comm,Bool.and_left_comm]
   cases x.cst<;>simp
theorem X5m {x:FN} (h:x.kind=8):Jw x=decide (x.kids.length≤1):=by unfold Jw;rw[if_pos h]
theorem X5n {x:FN} (h:x.kind=9):Jw x=decide (x.kids.length=x.names.length):=by unfold Jw;rw[if_neg (by omega),if_pos h]
theorem X5o {x:FN} (h8:x.kind≠8) (h9:x.kind≠9) (hin:inB x.kind 1 23=true):Jw x=decide ((x.kids.length:Int)=kidsN x.kind):=by
 unfold Jw inB at *
 rw[if_neg h8,if_neg h9,hin,Bool.true_and]
theorem X5s {x:FN} (h9:x.kind=9):Xz x=(decide (x.name.toList= [])&&(decide (x.place=0)&&(decide (x.cst.length=0)&&(Q9 x.names&&decide (x.kids.length=x.names.length))))):=by
 rw[Xz,X5n h9]
 unfold U8 Ka
 simp[h9,Bool.and_assoc]
 cases x.cst<;>simp
set_option maxRecDepth 100000 in
theorem Xu8 (B:Nat) (x:FN) (kc kn ki:Value) (w:World) (h:FNodeIn B w x kc kn ki) (hB:B≤w.heap.size) (h9:x.kind≠9):
  Calls Tryz.prog 66 #[.agg #[.int .i64 x.kind, .string x.name, .int .i64 x.place,kc,kn,ki]] w fun e w'=>e= .returned (.bool (Xz x))∧Below w.heap.size w w':=by
 have hsz:=h.size
 have HC:=Xa h.cst
 obtain ⟨hcl,a0,c0,e0,hcc⟩:=h.cst
 obtain ⟨hnl,_,a1,c1,e1,_⟩:=h.names
 obtain ⟨hkl,_,a2,c2,e2,_⟩:=h.kids
 subst e0 e1 e2
 have HCC:=Xa hcc
 clear h hcc
 obtain ⟨W1,hW1⟩:∃W1,W1=w.alloc (.cells #[.int .i64 x.kind, .string x.name, .int .i64 x.place, .slice a0 x.cst.length c0, .slice a1 x.names.length c1, .slice a2 x.kids.length c2] 84):=⟨_,rfl⟩
 have d0:W1.cell? ⟨w.heap.size,0,none⟩=some (.int .i64 x.kind):=by rw[hW1];simp
 have d1:W1.cell? ⟨w.heap.size,1,none⟩=some (.string x.name):=by rw[hW1];simp
 have d2:W1.cell? ⟨w.heap.size,2,none⟩=some (.int .i64 x.place):=by rw[hW1];simp
 have d3:W1.cell? ⟨w.heap.size,3,none⟩=some (.slice a0 x.cst.length c0):=by rw[hW1];simp
 have d4:W1.cell? ⟨w.heap.size,4,none⟩=some (.slice a1 x.names.length c1):=by rw[hW1];simp
 have d5:W1.cell? ⟨w.heap.size,5,none⟩=some (.slice a2 x.kids.length c2):=by rw[hW1];simp
 have HZ:Hid (W1.heap.size=w.heap.size+1):=by rw[Hid,hW1];simp
 have HBW:Hid (Below w.heap.size w W1):=by rw[Hid,hW1];exact (Below.refl _ _).alloc (Nat.le_refl _) _
 have HW1:=Xa hW1
 clear hW1
 have H9:=Xa h9
 have q9:(x.kind==9)=false:=by simp[h9]
 have q9':(x.kind !=9)=true:=by simp[h9]
 clear h9
 go_enter Tryz.func66,Tryz.ntmps66
 go_wp2_with fail
 rw[←HW1.out]
 refine (Xiu _ _).mono ?_
 rintro e w1 ⟨rfl,hw1⟩
 subst hw1
 obtain ⟨M,hM⟩:∃M,kidsN x.kind=M:=⟨_,rfl⟩
 rw[hM]
 have HM:=Xa hM
 clear hM
 go_wp2_with fail
 refine (V4 _ _ _ _).mono ?_
 rintro e w1 ⟨rfl,hw1⟩
 subst hw1
 cases hin:inB x.kind 1 23
 ·have H:=Xa (X45 hin)
  clear hin
  go_wp2_with fail
  go_ret
  exact ⟨Xn H.out.symm,HBW.out⟩
 have HIN:=Xa hin
 clear hin
 by_cases k8:x.kind=8
 case pos=>
  have q8:(x.kind==8)=true:=by simp[k8]
  have hM:M= -1:=by rw[←HM.out,k8];decide
  subst hM
  have HF:=Xa (X5m k8)
  have k5:x.kind≠5:=by omega
  have q5:(x.kind==5)=false:=by simp[k5]
  have q2:(x.kind==2)=false:=by rw[beq_eq_false_iff_ne];omega
  have q2':(x.kind !=2)=true:=by rw[bne_iff_ne];omega
  have q3:(x.kind==3)=false:=by rw[beq_eq_false_iff_ne];omega
  have HR:Hid (Jw x=true→x.names.length=0→Xz x=(decide (x.name.toList= [])&&(decide (x.cst.length=0)&&decide (x.place=0)))):=fun h1 h2=>by
   rw[Xs6 k5 H9.out h1 h2,if_neg (by omega),if_neg (by omega)]
  clear k8 k5
  by_cases hk:1<x.kids.length
  ·have H:Hid (Xz x=false):=Xpi (by rw[HF.out];simp;omega)
   have hk':(1:Int)<(x.kids.length:Int):=by omega
   go_wp2_with fail
   go_ret
   exact ⟨Xn H.out.symm,HBW.out⟩
  have hk':¬(1:Int)<(x.kids.length:Int):=by omega
  by_cases hn:0<x.names.length
  ·have H:=Xa (Xpj H9.out hn)
   have hn':(0:Int)<(x.names.length:Int):=by omega
   go_wp2_with fail
   go_ret
   exact ⟨Xn H.out.symm,HBW.out⟩
  have hn':¬(0:Int)<(x.names.length:Int):=by omega
  have HV:=Xa (HR.out (by rw[HF.out];simp;omega) (by omega))
  go_wp2_with fail
  go_loopw [4] (fun i wr=>i= .int .i64 0∧wr=w1) (fun _ _=>0)
  case atStart=>exact ⟨rfl,rfl⟩
  case round=>
   obtain ⟨rfl,rfl⟩:=hrel
   by_cases e1:x.name.toList= []
   case neg=>
    have p1:(x.name.toList != [])=true:=by simp[e1]
    have p1':(x.name.toList== [])=false:=by simp[e1]
    have H:Hid (Xz x=false):=by rw[Hid,HV.out];simp[e1]
    clear e1
    go_wp2_with fail
    go_ret
    exact ⟨Xn H.out.symm,HBW.out⟩
   case pos=>
   have p1:(x.name.toList != [])=false:=by simp[e1]
   have p1':(x.name.toList== [])=true:=by simp[e1]
   have E1:=Xa e1
   clear e1
   by_cases e2:x.cst.length=0
   case neg=>
    have p2:((x.cst.length:Int)==0)=false:=by rw[beq_eq_false_iff_ne];omega
    have H:Hid (Xz x=false):=by rw[Hid,HV.out];simp[e2]
    clear e2
    go_wp2_with fail
    go_ret
    exact ⟨Xn H.out.symm,HBW.out⟩
   case pos=>
   have p2:((x.cst.length:Int)==0)=true:=by rw[beq_iff_eq];omega
   by_cases e3:x.place=0
   case neg=>
    have p3:(x.place==0)=false:=by simp[e3]
    have H:Hid (Xz x=false):=by rw[Hid,HV.out];simp[e3]
    clear e2 e3
    go_wp2_with fail
    go_ret
    exact ⟨Xn H.out.symm,HBW.out⟩
   case pos=>
   have p3:(x.place==0)=true:=by simp[e3]
   have H:Hid (Xz x=true):=by rw[Hid,HV.out];simp[E1.out,e2,e3]
   clear e2 e3
   go_wp2_with fail
   go_ret
   exact ⟨Xn H.out.symm,HBW.out⟩
 case neg=>
 have q8:(x.kind==8)=false:=by simp[k8]
 have hM0:0≤M:=by rw[←HM.out];exact X1p k8 H9.out
 have HF:Hid (Jw x=decide ((x.kids.length:Int)=M)):=by rw[Hid,←HM.out];exact X5o k8 H9.out HIN.out
 clear k8
 by_cases hk:(x.kids.length:Int)=M
 case neg=>
  have hk':((x.kids.length:Int) !=M)=true:=by rw[bne_iff_ne];exact hk
  have H:Hid (Xz x=false):=Xpi (by rw[HF.out];simp[hk])
  clear hk
  go_wp2_with fail
  go_ret
  exact ⟨Xn H.out.symm,HBW.out⟩
 case pos=>
 have HFT:Hid (Jw x=true):=by rw[Hid,HF.out];simp[hk]
 have hk':((x.kids.length:Int) !=M)=false:=by rw[hk];simp
 have HKM:=Xa hk
 clear hk
 by_cases hn:0<x.names.length
 ·have H:=Xa (Xpj H9.out hn)
  have hn':(0:Int)<(x.names.length:Int):=by omega
  go_wp2_with fail
  go_ret
  exact ⟨Xn H.out.symm,HBW.out⟩
 have hn':¬(0:Int)<(x.names.length:Int):=by omega
 have hn0:x.names.length=0:=by omega
 have HN0:=Xa hn0
 clear hn hn0
 go_wp2_with fail
 go_loopw [4] (fun i wr=>i= .int .i64 0∧wr=w1) (fun _ _=>0)
 case atStart=>exact ⟨rfl,rfl⟩
 case round=>
  obtain ⟨rfl,rfl⟩:=hrel
  by_cases k5:x.kind=5
  case pos=>
   have q5:(x.kind==5)=true:=by simp[k5]
   have HV:=Xa (X5r k5 HFT.out HN0.out)
   clear k5
   by_cases e1:x.name.toList= []
   case neg=>
    have p1':(x.name.toList== [])=false:=by simp[e1]
    have H:Hid (Xz x=false):=by rw[Hid,HV.out];simp[e1]
    clear e1
    go_wp2_with fail
    go_ret
    exact ⟨Xn H.out.symm,HBW.out⟩
   case pos=>
   have p1':(x.name.toList== [])=true:=by simp[e1]
   have E1:=Xa e1
   clear e1
   by_cases e3:x.place=0
   case neg=>
    have p3:(x.place==0)=false:=by simp[e3]
    have H:Hid (Xz x=false):=by rw[Hid,HV.out];simp[e3]
    clear e3
    go_wp2_with fail
    go_ret
    exact ⟨Xn H.out.symm,HBW.out⟩
   case pos=>
   have p3:(x.place==0)=true:=by simp[e3]
   have E3:=Xa e3
   clear e3
   have HV2:Hid (Xz x=Vt x.cst):=by rw[Hid,HV.out];simp[E1.out,E3.out]
   by_cases e4:x.cst.length=1
   case neg=>
    have p4:((x.cst.length:Int)==1)=false:=by rw[beq_eq_false_iff_ne];omega
    have H:Hid (Xz x=false):=by rw[Hid,HV2.out];simp[Vt,e4]
    clear e4
    go_wp2_with fail
    go_ret
    exact ⟨Xn H.out.symm,HBW.out⟩
   case pos=>
   have p4:((x.cst.length:Int)==1)=true:=by rw[beq_iff_eq];omega
   have hp:0<x.cst.length:=by omega
   have E4:=Xa e4
   clear e4
   obtain ⟨b,o,rfl,hbB,hc⟩:=HCC.out hp
   obtain ⟨ka,kii,hnd⟩:=hc 0 hp
   have g0:=(Xc HBW.out (show b<w.heap.size by omega)).trans hnd.c0
   rw[Nat.zero_mul,Nat.add_zero] at g0
   clear hc hnd
   have HND:=Xa (HC.out.below (HBW.out.mono hB))
   have hzz:B≤wr.heap.size:=by rw[HZ.out];omega
   have HG0:=Xa g0
   have HD3:=Xa d3
   clear g0
   go_wp2_with fail
   refine (Xbd B _ x.cst wr HND.out hzz).mono ?_
   rintro e w2 ⟨rfl,hb2⟩
   have HB2:=Xa hb2
   have j3:=(Xc hb2 (show w.heap.size<wr.heap.size by rw[HZ.out];omega)).trans HD3.out
   have g1:=(Xc hb2 (show b<wr.heap.size by rw[HZ.out];omega)).trans HG0.out
   have HBX:Hid (Below w.heap.size w w2):=HBW.out.trans (hb2.mono (by rw[HZ.out];omega))
   clear hb2 d0 d1 d2 d3 d4 d5
   cases hok:okB x.cst
   ·have H:Hid (Xz x=false):=by rw[Hid,HV2.out];simp[Vt,hok]
    clear hok
    go_wp2_with fail
    go_ret
    exact ⟨Xn H.out.symm,HBX.out⟩
   ·have HV3:Hid (Xz x=decide ((Xb x.cst 0).kind≤4)):=by
     rw[Hid,HV2.out,←X5q E4.out hok]
     simp[Vt,hok,E4.out]
    clear hok
    go_wp2_with fail
    go_ret
    exact ⟨Xn HV3.out.symm,HBX.out⟩
  case neg=>
  have q5:(x.kind==5)=false:=by simp[k5]
  have HV:=Xa (Xs6 k5 H9.out HFT.out HN0.out)
  clear k5
  by_cases k2:x.kind=2
  case pos=>
   have q2:(x.kind==2)=true:=by simp[k2]
   have q2':(x.kind !=2)=false:=by simp[k2]
   have q3:(x.kind==3)=false:=by rw[beq_eq_false_iff_ne];omega
   have HV2:Hid (Xz x=(Y8 x.name&&(decide (x.cst.length=0)&&decide (x.place=0)))):=by rw[Hid,HV.out,if_pos k2,if_neg (by omega)]
   clear k2
   go_wp2_with fail
   refine (U5 _ _ hsz).mono ?_
   rintro e w2 ⟨rfl,hw2⟩
   subst hw2
   cases hnm:Y8 x.name
   ·have H:Hid (Xz x=false):=by rw[Hid,HV2.out,hnm,Bool.false_and]
    clear hnm
    go_wp2_with fail
    go_ret
    exact ⟨Xn H.out.symm,HBW.out⟩
   have HV3:Hid (Xz x=(decide (x.cst.length=0)&&decide (x.place=0))):=by rw[Hid,HV2.out,hnm,Bool.true_and]
   clear hnm
   by_cases e2:x.cst.length=0
   case neg=>
    have p2:((x.cst.length:Int)==0)=false:=by rw[beq_eq_false_iff_ne];omega
    have H:Hid (Xz x=false):=by rw[Hid,HV3.out];simp[e2]
    clear e2
    go_wp2_with fail
    go_ret
    exact ⟨Xn H.out.symm,HBW.out⟩
   case pos=>
   have p2:((x.cst.length:Int)==0)=true:=by rw[beq_iff_eq];omega
   by_cases e3:x.place=0
   case neg=>
    have p3:(x.place==0)=false:=by simp[e3]
    have H:Hid (Xz x=false):=by rw[Hid,HV3.out];simp[e3]
    clear e2 e3
    go_wp2_with fail
    go_ret
    exact ⟨Xn H.out.symm,HBW.out⟩
   case pos=>
   have p3:(x.place==0)=true:=by simp[e3]
   have H:Hid (Xz x=true):=by rw[Hid,HV3.out];simp[e2,e3]
   clear e2 e3
   go_wp2_with fail
   go_ret
   exact ⟨Xn H.out.symm,HBW.out⟩
  case neg=>
  have q2:(x.kind==2)=false:=by simp[k2]
  have q2':(x.kind !=2)=true:=by simp[k2]
  have HV2:Hid (Xz x=(decide (x.name.toList= [])&&(decide (x.cst.length=0)&&(if x.kind=3 then inB x.place (-80) 80 else decide (x.place=0))))):=by rw[Hid,HV.out,if_neg k2]
  clear k2
  by_cases e1:x.name.toList= []
  case neg=>
   have p1:(x.name.toList != [])=true:=by simp[e1]
   have p1':(x.name.toList== [])=false:=by simp[e1]
   have H:Hid (Xz x=false):=by rw[Hid,HV2.out];simp[e1]
   clear e1
   go_wp2_with fail
   go_ret
   exact ⟨Xn H.out.symm,HBW.out⟩
  case pos=>
  have p1:(x.name.toList != [])=false:=by simp[e1]
  have p1':(x.name.toList== [])=true:=by simp[e1]
  have E1:=Xa e1
  clear e1
  by_cases e2:x.cst.length=0
  case neg=>
   have p2:((x.cst.length:Int)==0)=false:=by rw[beq_eq_false_iff_ne];omega
   have H:Hid (Xz x=false):=by rw[Hid,HV2.out];simp[e2]
   clear e2
   go_wp2_with fail
   go_ret
   exact ⟨Xn H.out.symm,HBW.out⟩
  case pos=>
  have p2:((x.cst.length:Int)==0)=true:=by rw[beq_iff_eq];omega
  have HV3:Hid (Xz x=(if x.kind=3 then inB x.place (-80) 80 else decide (x.place=0))):=by rw[Hid,HV2.out];simp[E1.out,e2]
  clear e2
  by_cases e3:x.place=0
  case pos=>
   have p3:(x.place==0)=true:=by simp[e3]
   have H:Hid (Xz x=true):=by rw[Hid,HV3.out,e3];split<;>decide
   clear e3
   go_wp2_with fail
   go_ret
   exact ⟨Xn H.out.symm,HBW.out⟩
  case neg=>
  have p3:(x.place==0)=false:=by simp[e3]
  have E3:=Xa e3
  clear e3
  by_cases k3:x.kind=3
  case neg=>
   have q3:(x.kind==3)=false:=by simp[k3]
   have H:Hid (Xz x=false):=by rw[Hid,HV3.out,if_neg k3];simp[E3.out]
   clear k3
   go_wp2_with fail
   go_ret
   exact ⟨Xn H.out.symm,HBW.out⟩
  case pos=>
  have q3:(x.kind==3)=true:=by simp[k3]
  have HV4:Hid (Xz x=inB x.place (-80) 80):=by rw[Hid,HV3.out,if_pos k3]
  clear k3
  go_wp2_with fail
  refine (V4 _ _ _ _).mono ?_
  rintro e w2 ⟨rfl,hw2⟩
  subst hw2
  go_wp2_with fail
  go_ret
  exact ⟨Xn HV4.out.symm,HBW.out⟩
set_option maxRecDepth 100000 in
theorem Xu9 (B:Nat) (x:FN) (kc kn ki:Value) (w:World) (h:FNodeIn B w x kc kn ki) (hB:B≤w.heap.size) (h9:x.kind=9):
  Calls Tryz.prog 66 #[.agg #[.int .i64 x.kind, .string x.name, .int .i64 x.place,kc,kn,ki]] w fun e w'=>e= .returned (.bool (Xz x))∧Below w.heap.size w w':=by
 have HV:=Xa (X5s h9)
 obtain ⟨hcl,a0,c0,e0,_⟩:=h.cst
 obtain ⟨hnl,hks,a1,c1,e1,hcell⟩:=h.names
 obtain ⟨hkl,_,a2,c2,e2,_⟩:=h.kids
 subst e0 e1 e2
 have HCC:=Xa hcell
 have HKS:=Xa hks
 clear h hcell hks
 obtain ⟨W1,hW1⟩:∃W1,W1=w.alloc (.cells #[.int .i64 x.kind, .string x.name, .int .i64 x.place, .slice a0 x.cst.length c0, .slice a1 x.names.length c1, .slice a2 x.kids.length c2] 84):=⟨_,rfl⟩
 have d0:W1.cell? ⟨w.heap.size,0,none⟩=some (.int .i64 x.kind):=by rw[hW1];simp
 have d1:W1.cell? ⟨w.heap.size,1,none⟩=some (.string x.name):=by rw[hW1];simp
 have d2:W1.cell? ⟨w.heap.size,2,none⟩=some (.int .i64 x.place):=by rw[hW1];simp
 have d3:W1.cell? ⟨w.heap.size,3,none⟩=some (.slice a0 x.cst.length c0):=by rw[hW1];simp
 have d4:W1.cell? ⟨w.heap.size,4,none⟩=some (.slice a1 x.names.length c1):=by rw[hW1];simp
 have d5:W1.cell? ⟨w.heap.size,5,none⟩=some (.slice a2 x.kids.length c2):=by rw[hW1];simp
 have HZ:Hid (W1.heap.size=w.heap.size+1):=by rw[Hid,hW1];simp
 have HBW:Hid (Below w.heap.size w W1):=by rw[Hid,hW1];exact (Below.refl _ _).alloc (Nat.le_refl _) _
 have HW1:=Xa hW1
 clear hW1
 have HK:=Xa h9
 have q9:(x.kind==9)=true:=by simp[h9]
 have q9':(x.kind !=9)=false:=by simp[h9]
 have q8:(x.kind==8)=false:=by rw[beq_eq_false_iff_ne];omega
 have q5:(x.kind==5)=false:=by rw[beq_eq_false_iff_ne];omega
 have q2:(x.kind==2)=false:=by rw[beq_eq_false_iff_ne];omega
 have q2':(x.kind !=2)=true:=by rw[bne_iff_ne];omega
 have q3:(x.kind==3)=false:=by rw[beq_eq_false_iff_ne];omega
 clear h9
 go_enter Tryz.func66,Tryz.ntmps66
 go_wp2_with fail
 rw[←HW1.out]
 refine (Xiu _ _).mono ?_
 rintro e w1 ⟨rfl,hw1⟩
 subst hw1
 have HM:Hid (kidsN x.kind= -1):=by rw[Hid,HK.out];decide
 rw[HM.out]
 go_wp2_with fail
 refine (V4 _ _ _ _).mono ?_
 rintro e w1 ⟨rfl,hw1⟩
 subst hw1
 have HIN:Hid (inB x.kind 1 23=true):=by rw[Hid,HK.out];decide
 rw[HIN.out]
 by_cases hk:5<x.kids.length
 ·have H:Hid (Xz x=false):=by
   rw[Hid,HV.out]
   by_cases e:x.kids.length=x.names.length
   ·have:Q9 x.names=false:=by simp[Q9];omega
    simp[this]
   ·simp[e]
  have hk':(5:Int)<(x.kids.length:Int):=by omega
  go_wp2_with fail
  all_goals
   go_ret
   exact ⟨Xn H.out.symm,HBW.out⟩
 have hk':¬(5:Int)<(x.kids.length:Int):=by omega
 have HLE:Hid (Xz x=false∨x.kids.length=x.names.length):=by
  by_cases e:x.kids.length=x.names.length
  ·exact Or.inr e
  ·Xa8;rw[HV.out];simp[e]
 by_cases hn:0<x.names.length
 case neg =>
  have hn':¬(0:Int)<(x.names.length:Int):=by omega
  have HNR:Hid (Xau x.names=true):=Xg5 (fun j hj=>absurd hj (by omega))
  go_wp2_with fail
  go_loopw [4] (fun i wr=>i= .int .i64 0∧wr=w1) (fun _ _=>0)
  case atStart=>exact ⟨rfl,rfl⟩
  case round=>
    obtain ⟨rfl,rfl⟩:=hrel
    have HBX:=HBW
    by_cases e0:x.names.length=x.kids.length
    case neg=>
     have p0:((x.names.length:Int) !=(x.kids.length:Int))=true:=by rw[bne_iff_ne];omega
     have H:Hid (Xz x=false):=by
      rcases HLE.out with e|e
      ·exact e
      ·exact absurd e.symm e0
     clear e0
     go_wp2_with fail
     go_ret
     exact ⟨Xn H.out.symm,HBX.out⟩
    case pos=>
    have p0:((x.names.length:Int) !=(x.kids.length:Int))=false:=by rw[e0];simp
    have HV2:Hid (Xz x=(decide (x.name.toList= [])&&(decide (x.place=0)&&decide (x.cst.length=0)))):=by
     have h5:x.names.length≤5:=by omega
     rw[Hid,HV.out,Q9,HNR.out]
     simp[e0.symm,h5]
    clear e0
    by_cases e1:x.name.toList= []
    case neg=>
     have p1:(x.name.toList != [])=true:=by simp[e1]
     have p1':(x.name.toList== [])=false:=by simp[e1]
     have H:Hid (Xz x=false):=by rw[Hid,HV2.out];simp[e1]
     clear e1
     go_wp2_with fail
     go_ret
     exact ⟨Xn H.out.symm,HBX.out⟩
    case pos=>
    have p1:(x.name.toList != [])=false:=by simp[e1]
    have p1':(x.name.toList== [])=true:=by simp[e1]
    have E1:=Xa e1
    clear e1
    by_cases e2:x.cst.length=0
    case neg=>
     have p2:((x.cst.length:Int)==0)=false:=by rw[beq_eq_false_iff_ne];omega
     have H:Hid (Xz x=false):=by rw[Hid,HV2.out];simp[e2]
     clear e2
     go_wp2_with fail
     go_ret
     exact ⟨Xn H.out.symm,HBX.out⟩
    case pos=>
    have p2:((x.cst.length:Int)==0)=true:=by rw[beq_iff_eq];omega
    by_cases e3:x.place=0
    case neg=>
     have p3:(x.place==0)=false:=by simp[e3]
     have H:Hid (Xz x=false):=by rw[Hid,HV2.out];simp[e3]
     clear e2 e3
     go_wp2_with fail
     go_ret
     exact ⟨Xn H.out.symm,HBX.out⟩
    case pos=>
    have p3:(x.place==0)=true:=by simp[e3]
    have H:Hid (Xz x=true):=by rw[Hid,HV2.out];simp[E1.out,e2,e3]
    clear e2 e3
    go_wp2_with fail
    go_ret
    exact ⟨Xn H.out.symm,HBX.out⟩
 case pos=>
 have hn':(0:Int)<(x.names.length:Int):=by omega
 go_wp2_with fail
 clear hn hn'
 go_loopw [4] (fun i wr=>∃k:Nat,k≤x.names.length∧i= .int .i64 k∧Hid (∀j,j<k→Jc x.names j=true)∧Below (w.heap.size+1) w1 wr) (fun i _=>x.names.length-(intOf i).toNat)
 case atStart=>exact ⟨0,Nat.zero_le _,rfl,fun j hj=>absurd hj (by omega),Below.refl _ _⟩
 case round =>
  obtain ⟨k,hkl2,rfl,HR,hbel⟩:=hrel
  have f0:=(Xc (o:=0) hbel (Nat.lt_succ_self _)).trans d0
  have f1:=(Xc (o:=1) hbel (Nat.lt_succ_self _)).trans d1
  have f2:=(Xc (o:=2) hbel (Nat.lt_succ_self _)).trans d2
  have f3:=(Xc (o:=3) hbel (Nat.lt_succ_self _)).trans d3
  have f4:=(Xc (o:=4) hbel (Nat.lt_succ_self _)).trans d4
  have f5:=(Xc (o:=5) hbel (Nat.lt_succ_self _)).trans d5
  have HBX:Hid (Below w.heap.size w wr):=HBW.out.trans (hbel.mono (by omega))
  by_cases hlt:k<x.names.length
  ·obtain ⟨b,o,rfl,hbB,hc⟩:=HCC.out (by omega)
   have hck:wr.cell? ⟨b,o+k,none⟩=some (.string (Xh x.names k)):=(Xc (o:=o+k) HBX.out (by omega)).trans (hc k hlt)
   have hs:=HKS.out k hlt
   have HFL:Hid (Jc x.names k=false→Xz x=false):=fun e=>by
    rw[HV.out,Q9,Xfh hlt e]
    simp
   have HTR:Hid (Jc x.names k=true→∀j,j<k+1→Jc x.names j=true):=fun e j hj=>by
    by_cases g:j=k
    ·subst g;exact e
    ·exact HR.out j (by omega)
   by_cases ht:Y8 (Xh x.names k)=true
   ·by_cases h0:k=0
    ·have HR2:=Xa (HTR.out (by unfold Jc;rw[ht];simp[h0]))
     have hd:decide ((0:Int)<(k:Int))=false:=by simp;omega
     have hd2:decide (0<k)=false:=by simp;omega
     have HX:Hid (k=0):=h0
     clear hc h0
     go_wp2_with fail
     go_quiet ((go_at_call 126;exact Calls.quiet_of_same (U5 _ _ hs)))
     go_wp2_with fail
     go_roundw
     case rel=>exact ⟨k+1,by omega,by go_num,HR2,below_drewN hbel nq⟩
     case measure=>simp[intOf];omega
    ·have hpos:(0:Int)<(k:Int):=by omega
     have hcm:wr.cell? ⟨b,o+(k-1),none⟩=some (.string (Xh x.names (k-1))):=(Xc (o:=o+(k-1)) HBX.out (by omega)).trans (hc (k-1) (by omega))
     have hd1:decide ((0:Int)<(k:Int))=true:=by simp;omega
     have hd2:decide (0<k)=true:=by simp;omega
     have hd3:0<k:=by omega
     have pw:IntKind.i64.wrap ((k:Int)-1)=(k:Int)-1:=by rw[IntKind.wrap_i64];omega
     have p0:((k:Int)-1).toNat=k-1:=by omega
     have p1:0≤(k:Int)-1:=by omega
     have p2:(k:Int)-1<(x.names.length:Int):=by omega
     have p3:(1:Int)≤(k:Int):=by omega
     have p4:1≤k:=by omega
     have p5:(k:Int)<(x.names.length:Int)+1:=by omega
     have p6:(k:Int)≤(x.names.length:Int):=by omega
     have p7:k≤x.names.length:=by omega
     have p8:k<x.names.length+1:=by omega
     by_cases hl:Op.bytesLess (Xh x.names (k-1)).toList (Xh x.names k).toList=true
     ·have HR2:=Xa (HTR.out (by unfold Jc;rw[ht];simp[Y9,hl]))
      clear hc
      go_wp2_with fail
      go_quiet ((go_at_call 126;exact Calls.quiet_of_same (U5 _ _ hs)))
      go_wp2_with fail
      go_roundw
      case rel=>exact ⟨k+1,by omega,by go_num,HR2,below_drewN hbel nq⟩
      case measure=>simp[intOf];omega
     ·have H:=Xa (HFL.out (by unfold Jc;rw[ht];simp[Y9,hl];omega))
      have hl':Op.bytesLess (Xh x.names (k-1)).toList (Xh x.names k).toList=false:=by simpa using hl
      clear hc hl
      go_wp2_with fail
      go_quiet ((go_at_call 126;exact Calls.quiet_of_same (U5 _ _ hs)))
      go_wp2_with fail
      go_ret
      exact ⟨Xn H.out.symm,below_drewN HBX.out nq⟩
   ·have ht':Y8 (Xh x.names k)=false:=by simpa using ht
    have H:=Xa (HFL.out (by unfold Jc;rw[ht',Bool.false_and]))
    clear hc ht
    go_wp2_with fail
    go_quiet ((go_at_call 126;exact Calls.quiet_of_same (U5 _ _ hs)))
    go_wp2_with fail
    go_ret
    exact ⟨Xn H.out.symm,below_drewN HBX.out nq⟩
  ·obtain rfl:k=x.names.length:=by omega
   have HNR:=Xa (Xg5 HR.out)
   by_cases e0:x.names.length=x.kids.length
   case neg=>
    have p0:((x.names.length:Int) !=(x.kids.length:Int))=true:=by rw[bne_iff_ne];omega
    have H:Hid (Xz x=false):=by
     rcases HLE.out with e|e
     ·exact e
     ·exact absurd e.symm e0
    clear e0
    go_wp2_with fail
    go_ret
    exact ⟨Xn H.out.symm,HBX.out⟩
   case pos=>
   have p0:((x.names.length:Int) !=(x.kids.length:Int))=false:=by rw[e0];simp
   have HV2:Hid (Xz x=(decide (x.name.toList= [])&&(decide (x.place=0)&&decide (x.cst.length=0)))):=by
    have h5:x.names.length≤5:=by omega
    rw[Hid,HV.out,Q9,HNR.out]
    simp[e0.symm,h5]
   clear e0
   by_cases e1:x.name.toList= []
   case neg=>
    have p1:(x.name.toList != [])=true:=by simp[e1]
    have p1':(x.name.toList== [])=false:=by simp[e1]
    have H:Hid (Xz x=false):=by rw[Hid,HV2.out];simp[e1]
    clear e1
    go_wp2_with fail
    go_ret
    exact ⟨Xn H.out.symm,HBX.out⟩
   case pos=>
   have p1:(x.name.toList != [])=false:=by simp[e1]
   have p1':(x.name.toList== [])=true:=by simp[e1]
   have E1:=Xa e1
   clear e1
   by_cases e2:x.cst.length=0
   case neg=>
    have p2:((x.cst.length:Int)==0)=false:=by rw[beq_eq_false_iff_ne];omega
    have H:Hid (Xz x=false):=by rw[Hid,HV2.out];simp[e2]
    clear e2
    go_wp2_with fail
    go_ret
    exact ⟨Xn H.out.symm,HBX.out⟩
   case pos=>
   have p2:((x.cst.length:Int)==0)=true:=by rw[beq_iff_eq];omega
   by_cases e3:x.place=0
   case neg=>
    have p3:(x.place==0)=false:=by simp[e3]
    have H:Hid (Xz x=false):=by rw[Hid,HV2.out];simp[e3]
    clear e2 e3
    go_wp2_with fail
    go_ret
    exact ⟨Xn H.out.symm,HBX.out⟩
   case pos=>
   have p3:(x.place==0)=true:=by simp[e3]
   have H:Hid (Xz x=true):=by rw[Hid,HV2.out];simp[E1.out,e2,e3]
   clear e2 e3
   go_wp2_with fail
   go_ret
   exact ⟨Xn H.out.symm,HBX.out⟩
theorem Xpk (B:Nat) (x:FN) (kc kn ki:Value) (w:World) (h:FNodeIn B w x kc kn ki) (hB:B≤w.heap.size):
  Calls Tryz.prog 66 #[.agg #[.int .i64 x.kind, .string x.name, .int .i64 x.place,kc,kn,ki]] w fun e w'=>e= .returned (.bool (Xz x))∧Below w.heap.size w w':=by
 by_cases h9:x.kind=9
 ·exact Xu9 B x kc kn ki w h hB h9
 ·exact Xu8 B x kc kn ki w h hB h9

set_option maxRecDepth 100000 in
theorem Xu7 (B:Nat) (v:Value) (vs:List FN) (N:Nat):∀(n:Nat) (w:World),n<N→n<vs.length→FNodesAt B w v vs→
  Calls Tryz.prog 67 #[v, .int .i64 n] w fun e w'=>e= .returned (.tuple #[.int .i64 (trF (tr (Q7 vs) n)), .int .i64 (trD (tr (Q7 vs) n))])∧w'=w:=by
 induction N with
 |zero=>intro n w h;omega
 | succ N ih =>
  intro n w hN hn hv
  have HV:Hid (FNodesAt B w v vs):=hv
  have IH:=Xa ih
  clear ih
  obtain ⟨hlen,a,cap,rfl,hcell⟩:=hv
  obtain ⟨b0,o0,rfl,hb0,hc⟩:=hcell (by omega)
  obtain ⟨kc,ka,ki,hnode⟩:=hc n hn
  have hc4:=hnode.c5
  obtain ⟨hkl,hkb,ak,ck,rfl,hkc⟩:=hnode.inn.kids
  clear hcell hc hnode
  have HK:Hid (Q7 vs n=(Xr vs n).kids):=Xa rfl
  generalize (Xr vs n).kids=kids at *
  generalize Q7 vs=K at *
  go_enter Tryz.func67,Tryz.ntmps67
  go_wp2_with fail
  go_loopw [6,7,8] (fun t d i wr=>∃(r b h:Nat) (z:Int),r≤kids.length∧i= .int .i64 z∧z=(r:Int)-1∧t= .int .i64 ((b:Int)-1)∧d= .int .i64 h∧b≤n∧h≤n∧Hid (Vc (tr K) kids n r=some (b,h))∧wr=w) (fun _ _ i _=>(intOf i+1).toNat)
  case atStart=>exact ⟨kids.length,n,0,_,Nat.le_refl _,rfl,rfl,rfl,rfl,Nat.le_refl _,Nat.zero_le _,Xm7 _ _ _,rfl⟩
  case round =>
   obtain ⟨r,b,h,z,hr,rfl,hz,rfl,rfl,hbn,hhn,HS,rfl⟩:=hrel
   by_cases hr0:r=0
   ·obtain rfl:z= -1:=by omega
    have HT:Hid (tr K n=some (b,h+1)):=Xm8 (by rw[HK.out,←hr0];exact HS.out)
    clear hz
    go_wp2_with fail
    go_ret2
    exact ⟨Vw (by rw[HT.out];simp[trF]) (by rw[HT.out];simp[trD]),rfl⟩
   ·obtain ⟨q,rfl⟩:∃q,r=q+1:=⟨r-1,by omega⟩
    obtain rfl:z=(q:Int):=by omega
    obtain ⟨b1,o1,rfl,hb1,hkc1⟩:=hkc (by omega)
    have hck:=hkc1 q (by omega)
    have hql:q<kids.length:=by omega
    have HQ:Hid (Vc (tr K) kids n q=X7 (tr K) (some (b,h)) (Xm kids q)):=by
     have:=Xe2 (tr K) kids n q hql
     rw[HS.out] at this
     exact this
    clear hz hkc hkc1 hr0
    by_cases hb:b=0
    ·have HT:Hid (tr K n=none):=Gb (r:=q) (by rw[HK.out];omega) (by rw[HK.out,HQ.out];simp[X7,hb])
     have hneg:(b:Int)-1<0:=by omega
     go_wp2_with fail
     go_ret2
     exact ⟨Vw (by rw[HT.out];rfl) (by rw[HT.out];rfl),rfl⟩
    ·obtain ⟨m,rfl⟩:∃m,b=m+1:=⟨b-1,by omega⟩
     have hcast:(((m+1:Nat):Int)-1)=(m:Int):=by omega
     rw[hcast]
     have HC:Hid ((((m+1:Nat):Int)-1)=(m:Int)):=hcast
     clear hcast
     have hneg:¬(m:Int)<0:=by omega
     by_cases hkid:Xm kids q=(m:Int)
     ·have hne:(Xm kids q !=(m:Int))=false:=by simp[hkid]
      have HX:Hid (Vc (tr K) kids n q=(tr K m).map (fun p=>(p.1,max h p.2))):=by
       refine HQ.out.trans ?_
       simp[X7,hkid]
      clear hkid
      go_wp2_with fail
      refine (IH.out m _ (by omega) (by omega) HV.out).mono ?_
      rintro e w' ⟨rfl,rfl⟩
      cases htr:tr K m with
      | none =>
       have HT:Hid (tr K n=none):=Gb (r:=q) (by rw[HK.out];omega) (by rw[HK.out,HX.out,htr];rfl)
       have h1:trF none<0:=by decide
       simp only[trF,trD]
       go_wp2_with fail
       go_ret2
       exact ⟨Vw (by rw[HT.out];rfl) (by rw[HT.out];rfl),rfl⟩
      | some p =>
       obtain ⟨p1,p2⟩:=p
       have hd:=Xkj m _ htr
       have HY:Hid (Vc (tr K) kids n q=some (p1,max h p2)):=HX.out.trans (by rw[htr];rfl)
       simp only[trF,trD]
       simp only at hd
       have h0:¬(p1:Int)<0:=by omega
       clear htr
       go_wp2_with fail
       go_roundw
       case rel=>exact ⟨q,p1,max h p2,_,by omega,rfl,rfl,rfl,by first|rw[Xv0]|(congr 1;omega),by omega,by omega,HY,by trivial⟩
       case measure=>simp[intOf]
     ·have hne:(Xm kids q !=(m:Int))=true:=by simp[hkid]
      have HT:Hid (tr K n=none):=Gb (r:=q) (by rw[HK.out];omega) (by rw[HK.out,HQ.out];simp[X7,hkid])
      clear hkid
      go_wp2_with fail
      go_ret2
      exact ⟨Vw (by rw[HT.out];rfl) (by rw[HT.out];rfl),rfl⟩
set_option maxRecDepth 100000 in
theorem Xhz (B : Nat) (v : Value) (vs : List FN) (w : World) (h : FNodesAt B w v vs) (hB : B ≤ w.heap.size) :
  Calls Tryz.prog 32 #[v] w fun e w'=>e= .returned (.bool (okF vs))∧Below w.heap.size w w':=by
 have HV:Hid (FNodesAt B w v vs):=h
 obtain ⟨hlen,a,cap,rfl,hcell⟩:=h
 by_cases h1:vs.length<1
 ·have HO:Hid (okF vs=false):=Xd5 (Or.inl h1)
  have h1':(vs.length:Int)<1:=by omega
  go_enter Tryz.func32,Tryz.ntmps32
  go_wp2_with fail
  go_ret
  exact ⟨Xn HO.out.symm,Below.refl _ _⟩
 by_cases h2:40<vs.length
 ·have HO:Hid (okF vs=false):=Xd5 (Or.inr h2)
  have h1':¬(vs.length:Int)<1:=by omega
  have h2':(40:Int)<(vs.length:Int):=by omega
  go_enter Tryz.func32,Tryz.ntmps32
  go_wp2_with fail
  go_ret
  exact ⟨Xn HO.out.symm,Below.refl _ _⟩
 have h1':¬(vs.length:Int)<1:=by omega
 have h2':¬(40:Int)<(vs.length:Int):=by omega
 obtain ⟨b0,o0,rfl,hb0,hc⟩:=hcell (by omega)
 clear hcell
 go_enter Tryz.func32,Tryz.ntmps32
 go_wp2_with fail
 go_loopw [3] (fun i wr=>∃k:Nat,k≤vs.length∧i= .int .i64 k∧(∀j,j<k→Xz (Xr vs j)=true∧J6 vs j=true)∧Below w.heap.size w wr) (fun i _=>vs.length-(intOf i).toNat)
 case atStart=>exact ⟨0,Nat.zero_le _,rfl,fun j hj=>by omega,Below.refl _ _⟩
 case round =>
  obtain ⟨k,hk,rfl,hall,hbel⟩:=hrel
  have HA:=Xa hall
  clear hall
  by_cases hlt:k<vs.length
  ·obtain ⟨kc,ka,ki,hn⟩:=hc k hlt
   have hn':=hn.below (hbel.mono hB) hb0
   have c0:=hn'.c0
   have c1:=hn'.c1
   have c2:=hn'.c2
   have c3:=hn'.c3
   have c4:=hn'.c4
   have c5:=hn'.c5
   have hin:=Xa hn'.inn
   have hsize:=hbel.size
   have HC:=Xa hc
   clear hc hn hn'
   go_wp2_with fail
   refine (Xpk B (Xr vs k) kc ka ki _ hin.out (by omega)).mono ?_
   rintro e w1 ⟨rfl,hb1⟩
   have hbel1:Below w.heap.size w w1:=hbel.trans (hb1.mono hsize)
   have hnode1:=(hin.out.below (hb1.mono (by omega)))
   have d4:w1.cell? ⟨b0,o0+k *6+5,none⟩=some ki:=(Xc hb1 (by omega)).trans c5
   obtain ⟨hkl,hkb,ak,ck,rfl,hkc⟩:=hnode1.kids
   by_cases hnb:Xz (Xr vs k)=true
   ·have hN:=Xa hnb
    clear hnode1
    go_wp2_with fail
    go_loopw [4] (fun i wr=>∃q:Nat,q≤(Xr vs k).kids.length∧i= .int .i64 q∧(∀j,j<q→inB (Xm (Xr vs k).kids j) 0 ((k:Int)-1)=true)∧wr=w1) (fun i _=>(Xr vs k).kids.length-(intOf i).toNat)
    case atStart=>exact ⟨0,Nat.zero_le _,rfl,fun j hj=>by omega,rfl⟩
    case round=>
     obtain ⟨q,hq,rfl,hin2,rfl⟩:=hrel
     have HI:=Xa hin2
     clear hin2
     by_cases hlq:q<(Xr vs k).kids.length
     ·obtain ⟨b1,o1,rfl,hb1',hkc1⟩:=hkc (by omega)
      have hck:=hkc1 q hlq
      clear hkc1 hkc
      go_wp2_with fail
      refine (V4 _ _ _ _).mono ?_
      rintro e w2 ⟨rfl,rfl⟩
      by_cases hib:inB (Xm (Xr vs k).kids q) 0 ((k:Int)-1)=true
      ·have HI2:Hid (∀j,j<q+1→inB (Xm (Xr vs k).kids j) 0 ((k:Int)-1)=true):=fun j hj=>by
        by_cases e:j=q
        ·subst e;exact hib
        ·exact HI.out j (by omega)
       go_wp2_with fail
       go_roundw
       case rel=>exact ⟨q+1,by omega,by go_num,HI2.out,by trivial⟩
       case measure=>simp[intOf];omega
      ·have hib':inB (Xm (Xr vs k).kids q) 0 ((k:Int)-1)=false:=by simpa using hib
       have HO:Hid (okF vs=false):=X24 hlt hlq hib'
       clear hib
       go_wp2_with fail
       go_ret
       exact ⟨Xn HO.out.symm,hbel1⟩
     ·obtain rfl:q=(Xr vs k).kids.length:=by omega
      have HA2:Hid (∀j,j<k+1→Xz (Xr vs j)=true∧J6 vs j=true):=fun j hj=>by
       by_cases e:j=k
       ·subst e;exact ⟨hN.out,Xug HI.out⟩
       ·exact HA.out j (by omega)
      go_wp2_with fail
      go_roundw
      case rel=>exact ⟨k+1,by omega,by go_num,HA2.out,hbel1⟩
      case measure=>simp[intOf];omega
   ·have hnb':Xz (Xr vs k)=false:=by simpa using hnb
    have HO:Hid (okF vs=false):=Xd6 hlt hnb'
    clear hnb hnode1
    go_wp2_with fail
    go_ret
    exact ⟨Xn HO.out.symm,hbel1⟩
  ·obtain rfl:k=vs.length:=by omega
   have HO:Hid (okF vs=Ge (Q7 vs) vs.length 12):=X4o (by omega) (by omega) HA.out
   obtain ⟨n,hn⟩:∃n,vs.length=n+1:=⟨vs.length-1,by omega⟩
   have hcast:((vs.length:Int)-1)=(n:Int):=by omega
   have HV':=Xa (HV.out.below (hbel.mono hB))
   have HN:=Xa hn
   have HR:Hid (Ge (Q7 vs) vs.length 12=match tr (Q7 vs) n with
    |some p=>decide (p.1=0)&&decide ((p.2:Int)≤12)
    |none=>false):=by
    unfold Ge Hid
    rw[show vs.length-1=n by omega]
    rfl
   clear hc hn
   go_wp2_with fail
   refine (Xu7 B _ vs (n+1) n _ (by omega) (by have:=HN.out;omega) HV'.out).mono ?_
   rintro e w1 ⟨rfl,rfl⟩
   cases htr:tr (Q7 vs) n with
   | none =>
    have HR2:Hid (Ge (Q7 vs) vs.length 12=false):=by rw[Hid,HR.out,htr]
    simp only[trF,trD]
    clear htr
    go_wp2_with fail
    go_ret
    exact ⟨Xn (by rw[HO.out,HR2.out]),hbel⟩
   | some p =>
    obtain ⟨p1,p2⟩:=p
    have HR2:Hid (Ge (Q7 vs) vs.length 12=(decide (p1=0)&&decide ((p2:Int)≤12))):=by rw[Hid,HR.out,htr]
    simp only[trF,trD]
    clear htr
    by_cases hp:p1=0
    ·have hq:((p1:Int)==0)=true:=by simp[hp]
     have HP:=Xa hp
     clear hp
     go_wp2_with fail
     go_ret
     exact ⟨Xn (by rw[HO.out,HR2.out];simp[HP.out]),hbel⟩
    ·have hq:((p1:Int)==0)=false:=by simp[hp]
     have HP:=Xa hp
     clear hp
     go_wp2_with fail
     go_ret
     exact ⟨Xn (by rw[HO.out,HR2.out];simp[HP.out]),hbel⟩
end Go.Proofs.YtdjddneidbddpaaGreatDoor
