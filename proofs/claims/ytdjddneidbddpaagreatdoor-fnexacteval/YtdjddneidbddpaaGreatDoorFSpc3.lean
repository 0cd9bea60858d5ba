import Derived.Test.YtdjddneidbddpaaGreatDoorIParts
import Derived.Deep.Light
import Derived.Lib.Strings
import Derived.Laws.Cover1
namespace Go.Proofs.YtdjddneidbddpaaGreatDoor
set_option linter.unusedSectionVars false
set_option maxRecDepth 100000
set_option maxHeartbeats 6400000
open Go.RowKit
set_option linter.unusedSimpArgs false
set_option linter.unusedVariables false
theorem Ut (c:Nat) (w:World) (hc:c<256):
  Calls Tryz.prog 138 #[.int .u8 c] w fun e w'=>e= .returned (.bool (Jl c))/\w'=w:=by
 go_enter Tryz.func138,Tryz.ntmps138
 go_wp2_with fail
 all_goals
  go_ret
  refine ⟨Xi ?_,rfl⟩
  rw[Bool.eq_iff_iff]
  simp[Jl]
  omega
theorem Xqt (c:Nat) (w:World) (hc:c<256):
  Calls Tryz.prog 172 #[.int .u8 c] w fun e w'=>e= .returned (.bool (Vb c))/\w'=w:=by
 go_enter Tryz.func172,Tryz.ntmps172
 go_wp2_with fail
 all_goals
  go_ret
  refine ⟨Xi ?_,rfl⟩
  rw[Bool.eq_iff_iff]
  simp[Vb]
  omega
theorem Xtl (c:Nat) (w:World) (hc:c<256):
  Calls Tryz.prog 139 #[.int .u8 c] w fun e w'=>e= .returned (.bool (Jl c||Vb c))/\w'=w:=by
 go_enter Tryz.func139,Tryz.ntmps139
 go_wp2_with fail
 refine (Ut c w hc).mono ?_
 rintro e b ⟨rfl,rfl⟩
 cases hl:Jl c
 ·go_wp2_with fail
  refine (Xqt c b hc).mono ?_
  rintro e d ⟨rfl,rfl⟩
  go_wp2_with fail
  go_ret
  exact ⟨Xi (by rw[hl];rfl),rfl⟩
 ·go_wp2_with fail
  go_ret
  exact ⟨Xi (by rw[hl];rfl),rfl⟩
theorem Xdj {s:ByteArray}:s.toList= []↔s.size=0:=by
 rw[Lib.toList_data]
 constructor
 ·intro h
  have:=congrArg List.length h
  simpa using this
 ·intro h
  apply List.eq_nil_of_length_eq_zero
  simpa using h
theorem Xng {s:ByteArray} {j:Nat} (hj:j<s.size) (h:(Jl (Zc s j)||Vb (Zc s j))=false):Y1 s=false:=by
 unfold Y1
 rw[show ((List.range s.size).all fun j=>Jl (Zc s j)||Vb (Zc s j))=false from ?_,Bool.and_false]
 rw[List.all_eq_false]
 exact ⟨j,List.mem_range.2 hj,by rw[h];exact Bool.false_ne_true⟩
theorem Xky {s:ByteArray} (h0:0<s.size) (h1:s.size<=60) (h2:Jl (Zc s 0)=true) (h:∀j,j<s.size->(Jl (Zc s j)||Vb (Zc s j))=true):Y1 s=true:=by
 unfold Y1
 rw[show ((List.range s.size).all fun j=>Jl (Zc s j)||Vb (Zc s j))=true from ?_,h2]
 ·simp[h0,h1]
 ·rw[List.all_eq_true]
  exact fun j hj=>h j (List.mem_range.1 hj)
theorem Xf2 (c:UInt8):c.toNat<256:=c.toNat_lt
theorem Xie (s:ByteArray) (w:World) (hs:s.size<=140737488355328):
  Calls Tryz.prog 106 #[.string s] w fun e w'=>e= .returned (.bool (Y1 s))/\w'=w:=by
 by_cases h0:s.size=0
 ·have q:(s.toList== [])=true:=by simpa using Xdj.2 h0
  have H:Hid (Y1 s=false):=by simp[Hid,Y1,h0]
  clear h0
  go_enter Tryz.func106,Tryz.ntmps106
  go_wp2
  go_ret
  exact ⟨Xi H.out.symm,rfl⟩
 have q:(s.toList== [])=false:=by simpa using fun e=>h0 (Xdj.1 e)
 by_cases h60:60<s.size
 ·have H:Hid (Y1 s=false):=by simp[Hid,Y1];omega
  have t:(60:Int)<(s.size:Int):=by omega
  go_enter Tryz.func106,Tryz.ntmps106
  go_wp2
  go_ret
  exact ⟨Xi H.out.symm,rfl⟩
 have l:0<s.size:=by omega
 have b:=Uy l
 cases hl:Jl (Zc s 0)
 ·have H:Hid (Y1 s=false):=by rw[Hid,Y1,hl];simp
  have d:=Xa b
  have c:=Xa hl
  clear hl b
  go_enter Tryz.func106,Tryz.ntmps106
  go_wp2_with fail
  refine (Ut _ w (Xf2 _)).mono ?_
  rintro e o ⟨rfl,rfl⟩
  rw[d.out,c.out]
  go_wp2_with fail
  go_ret
  exact ⟨Xi H.out.symm,rfl⟩
 have d:=Xa b
 have c:=Xa hl
 clear hl b
 go_enter Tryz.func106,Tryz.ntmps106
 go_wp2_with fail
 refine (Ut _ w (Xf2 _)).mono ?_
 rintro e o ⟨rfl,rfl⟩
 rw[d.out,c.out]
 go_wp2_with fail
 go_loopw [19] (fun i wr=>∃k:Nat,k<=s.size/\i= .int .i64 k/\Hid (∀j,j<k->(Jl (Zc s j)||Vb (Zc s j))=true)/\wr=o) (fun i _=>s.size-(intOf i).toNat)
 case atStart=>exact ⟨0,Nat.zero_le _,rfl,fun j h=>absurd h (by omega),rfl⟩
 case round=>
  obtain ⟨k,y,rfl,p,rfl⟩:=hrel
  by_cases hlt:k<s.size
  ·have f:=Xa (Uy hlt)
   go_wp2_with fail
   refine (Xtl _ _ (Xf2 _)).mono ?_
   rintro e z ⟨rfl,rfl⟩
   rw[f.out]
   cases hc:(Jl (Zc s k)||Vb (Zc s k))
   ·have H:Hid (Y1 s=false):=Xng hlt hc
    go_wp2_with fail
    go_ret
    exact ⟨Xi H.out.symm,rfl⟩
   ·have g:Hid (∀j,j<k+1->(Jl (Zc s j)||Vb (Zc s j))=true):=fun j hj=>by
     by_cases e:j=k
     ·subst e;exact hc
     ·exact p.out j (by omega)
    go_wp2_with fail
    go_roundw
    case rel=>exact ⟨k+1,by omega,by go_num,g,by trivial⟩
    case measure=>simp[intOf];omega
  ·have H:Hid (Y1 s=true):=Xky l (by omega) c.out (fun j hj=>p.out j (by omega))
   go_wp2_with fail
   go_ret
   exact ⟨Xi H.out.symm,rfl⟩
theorem Xtm {l:List ByteArray} {k:Nat} (hk:k<l.length) (h:Y1 (Xf l k)=false):Qz l=false:=by
 unfold Qz
 rw[Xez hk (by unfold Q1;rw[h,Bool.false_and]),Bool.and_false]
theorem Xwc {l:List ByteArray} (h5:l.length<=5) (h:∀j,j<l.length->Y1 (Xf l j)=true):Qz l=Qs l:=by
 unfold Qz
 rw[Xwh,show ((List.range l.length).all fun j=>Y1 (Xf l j))=true from List.all_eq_true.2 (fun j hj=>h j (List.mem_range.1 hj))]
 simp[h5]
theorem Xqu (B:Nat) (v:Value) (l:List ByteArray) (w:World) (h:StrsAt B w v l):
  Calls Tryz.prog 108 #[v] w fun e w'=>e= .returned (.bool (Qz l))/\w'=w:=by
 have p:=Xa h
 obtain ⟨q,d,C,c1,rfl,c⟩:=h
 by_cases h5:5<l.length
 ·have H:Hid (Qz l=false):=by simp[Hid,Qz];omega
  have D:(5:Int)<(l.length:Int):=by omega
  go_enter Tryz.func108,Tryz.ntmps108
  go_wp2_with fail
  go_ret
  exact ⟨Xi H.out.symm,rfl⟩
 have s:=Xa c
 go_enter Tryz.func108,Tryz.ntmps108
 go_wp2_with fail
 go_loopw [10] (fun i wr=>∃k:Nat,k<=l.length/\i= .int .i64 k/\Hid (∀j,j<k->Y1 (Xf l j)=true)/\wr=w) (fun i _=>l.length-(intOf i).toNat)
 case atStart=>exact ⟨0,Nat.zero_le _,rfl,fun j h=>absurd h (by omega),rfl⟩
 case round=>
  obtain ⟨k,F,rfl,g,rfl⟩:=hrel
  by_cases hlt:k<l.length
  ·obtain ⟨b,o,rfl,t,G⟩:=s.out (by omega)
   have y:=d k hlt
   go_wp2_with fail
   refine (Xie _ _ y).mono ?_
   rintro e z ⟨rfl,rfl⟩
   cases hn:Y1 (Xf l k)
   ·have H:Hid (Qz l=false):=Xtm hlt hn
    go_wp2_with fail
    go_ret
    exact ⟨Xi H.out.symm,rfl⟩
   ·have f:Hid (∀j,j<k+1->Y1 (Xf l j)=true):=fun j hj=>by
     by_cases e:j=k
     ·subst e;exact hn
     ·exact g.out j (by omega)
    go_wp2_with fail
    go_roundw
    case rel=>exact ⟨k+1,by omega,by go_num,f,by trivial⟩
    case measure=>simp[intOf];omega
  ·have H:Hid (Qz l=Qs l):=Xwc (by omega) (fun j hj=>g.out j (by omega))
   go_wp2_with fail
   refine (Xel B _ l _ p.out).mono ?_
   rintro e z ⟨rfl,rfl⟩
   go_wp2_with fail
   go_ret
   exact ⟨Xi H.out.symm,rfl⟩
theorem Xqv (B:Nat) (v:Value) (vs:List VN) (w:World) (h:NodesAt B w v vs) (hB:B<=w.heap.size):
  Calls Tryz.prog 107 #[v] w fun e w'=>e= .returned (.bool (Vn vs))/\Below w.heap.size w w':=by
 have j:=Xa h
 obtain ⟨p,J,c1,rfl,c⟩:=h
 by_cases h1:vs.length=1
 ·have q:=Xa c
  clear c
  have s:=Xa h1
  have t:((vs.length:Int)==1)=true:=by simp[h1]
  have l:0<vs.length:=by omega
  clear h1
  cases hok:okB vs
  ·have H:Hid (Vn vs=false):=by simp[Hid,Vn,hok]
   have g:=Xa hok
   go_enter Tryz.func107,Tryz.ntmps107
   go_wp2_with fail
   refine (U8 B _ vs w j.out hB).mono ?_
   rintro e y ⟨rfl,d⟩
   rw[g.out]
   go_wp2_with fail
   go_ret
   exact ⟨Xi H.out.symm,d⟩
  ·have g:=Xa hok
   have H:Hid (Vn vs=(decide ((Xb vs 0).kind≠5)&&decide ((Xb vs 0).kind≠6))):=by simp[Hid,Vn,g.out,s.out]
   obtain ⟨b,o,rfl,z,C⟩:=q.out l
   obtain ⟨L,M,D⟩:=C 0 l
   have c0:=D.c0
   rw[Nat.zero_mul,Nat.add_zero] at c0
   go_enter Tryz.func107,Tryz.ntmps107
   go_wp2_with fail
   refine (U8 B _ vs w j.out hB).mono ?_
   rintro e y ⟨rfl,d⟩
   rw[g.out]
   have P:=(Xc d (show b<w.heap.size by omega)).trans c0
   by_cases k5:(Xb vs 0).kind=5
   ·have F:((Xb vs 0).kind !=5)=false:=by simp[k5]
    have f:Hid (Vn vs=false):=by rw[Hid,H.out];simp[k5]
    go_wp2_with fail
    go_ret
    exact ⟨Xi f.out.symm,d⟩
   ·have F:((Xb vs 0).kind !=5)=true:=by simp[k5]
    by_cases k6:(Xb vs 0).kind=6
    ·have G:((Xb vs 0).kind !=6)=false:=by simp[k6]
     have f:Hid (Vn vs=false):=by rw[Hid,H.out];simp[k6]
     go_wp2_with fail
     go_ret
     exact ⟨Xi f.out.symm,d⟩
    ·have G:((Xb vs 0).kind !=6)=true:=by simp[k6]
     have f:Hid (Vn vs=true):=by rw[Hid,H.out];simp[k5,k6]
     go_wp2_with fail
     go_ret
     exact ⟨Xi f.out.symm,d⟩
 ·have t:((vs.length:Int)==1)=false:=by rw[beq_eq_false_iff_ne];omega
  have H:Hid (Vn vs=false):=by simp[Hid,Vn,h1]
  go_enter Tryz.func107,Tryz.ntmps107
  go_wp2_with fail
  go_ret
  exact ⟨Xi H.out.symm,Below.refl _ _⟩
theorem Xcu (B:Nat) (x:FN) (kc kn ki:Value) (w:World) (h:FNodeIn B w x kc kn ki):
  Calls Tryz.prog 60 #[.agg #[.int .i64 x.kind, .string x.name, .int .i64 x.place,kc,kn,ki]] w fun e w'=>e= .returned (.bool (Uz x))/\Below w.heap.size w w':=by
 obtain ⟨_,f,c0,b,_⟩:=h.cst
 obtain ⟨_,_,g,c1,c,_⟩:=h.names
 obtain ⟨_,_,j,l,d,_⟩:=h.kids
 subst b c d
 go_enter Tryz.func60,Tryz.ntmps60
 go_wp2_with fail
 all_goals
  go_ret
  refine ⟨Xi ?_,(Below.refl _ _).alloc (Nat.le_refl _) _⟩
  go_light
  simp_all [Uz]
theorem Xb8 (B:Nat) (x:FN) (kc kn ki:Value) (w:World) (h:FNodeIn B w x kc kn ki) (hB:B<=w.heap.size):
  Calls Tryz.prog 61 #[.agg #[.int .i64 x.kind, .string x.name, .int .i64 x.place,kc,kn,ki]] w fun e w'=>e= .returned (.bool (J1 x))/\Below w.heap.size w w':=by
 have c:=h.size
 have g:=Xa h.cst
 have j:=Xa h.names
 obtain ⟨_,s,c0,l,_⟩:=h.cst
 obtain ⟨_,_,t,c1,p,_⟩:=h.names
 obtain ⟨_,_,y,z,q,_⟩:=h.kids
 subst l p q
 have b:∀o,Below w.heap.size w (w.alloc o):=fun o=>(Below.refl _ _).alloc (Nat.le_refl _) o
 by_cases k2:x.kind=2
 ·have C:(x.kind==2)=true:=by simp[k2]
  have H:Hid (J1 x=Y1 x.name):=by simp[Hid,J1,k2]
  go_enter Tryz.func61,Tryz.ntmps61
  go_wp2_with fail
  refine (Xie _ _ c).mono ?_
  rintro e f ⟨rfl,rfl⟩
  go_wp2_with fail
  go_ret
  exact ⟨Xi H.out.symm,b _⟩
 by_cases k3:x.kind=3
 ·have D:(x.kind==3)=true:=by simp[k3]
  have H:Hid (J1 x=(decide (-80<=x.place)&&decide (x.place<=80))):=by simp[Hid,J1,k3]
  go_enter Tryz.func61,Tryz.ntmps61
  go_wp2_with fail
  all_goals
   go_ret
   refine ⟨Xi ?_,b _⟩
   rw[H.out,Bool.eq_iff_iff]
   simp
   omega
 by_cases k5:x.kind=5
 ·have F:(x.kind==5)=true:=by simp[k5]
  have H:Hid (J1 x=Vn x.cst):=by simp[Hid,J1,k5]
  go_enter Tryz.func61,Tryz.ntmps61
  go_wp2_with fail
  refine (Xqv B _ x.cst _ (g.out.below ((b _).mono hB)) (by simp;omega)).mono ?_
  rintro e f ⟨rfl,d⟩
  go_wp2_with fail
  go_ret
  exact ⟨Xi H.out.symm,(b _).trans (d.mono (by simp))⟩
 by_cases k9:x.kind=9
 ·have G:(x.kind==9)=true:=by simp[k9]
  have H:Hid (J1 x=Qz x.names):=by simp[Hid,J1,k9]
  go_enter Tryz.func61,Tryz.ntmps61
  go_wp2_with fail
  refine (Xqu B _ x.names _ (j.out.below ((b _).mono hB))).mono ?_
  rintro e f ⟨rfl,rfl⟩
  go_wp2_with fail
  go_ret
  exact ⟨Xi H.out.symm,b _⟩
 have H:Hid (J1 x=true):=by simp[Hid,J1,k2,k3,k5,k9]
 go_enter Tryz.func61,Tryz.ntmps61
 go_wp2_with fail
 go_ret
 exact ⟨Xi H.out.symm,b _⟩
theorem Xgm (B:Nat) (x:FN) (kc kn ki:Value) (w:World) (h:FNodeIn B w x kc kn ki):
  Calls Tryz.prog 62 #[.agg #[.int .i64 x.kind, .string x.name, .int .i64 x.place,kc,kn,ki]] w fun e w'=>e= .returned (.bool (Jm x))/\Below w.heap.size w w':=by
 obtain ⟨_,f,c0,b,_⟩:=h.cst
 obtain ⟨_,_,g,c1,c,_⟩:=h.names
 obtain ⟨_,_,j,l,d,_⟩:=h.kids
 subst b c d
 go_enter Tryz.func62,Tryz.ntmps62
 go_wp2_with fail
 all_goals
  go_ret
  refine ⟨Xi ?_,(Below.refl _ _).alloc (Nat.le_refl _) _⟩
  go_light
  simp_all [Jm,kidsN]<;>first|omega|(rw[Bool.eq_iff_iff];simp;done)|(rw[Bool.eq_iff_iff];simp;omega)


theorem Xg5 (B:Nat) (v:Value) (fs:List FN) (w:World) (h:FNodesAt B w v fs) (hB:B<=w.heap.size):
  Calls Tryz.prog 28 #[v] w fun e w'=>e= .returned (.bool (okF fs))/\Below w.heap.size w w':=by
 have HE:Hid (Xnr fs=okF fs):=X4b fs
 obtain ⟨bp,a,bq,rfl,s⟩:=h
 by_cases h1:fs.length<1
 ·have t:Hid (okF fs=false):=Xdm (Or.inl h1)
  have S:(fs.length:Int)<1:=by omega
  go_enter Tryz.func28,Tryz.ntmps28
  go_wp2_with fail
  go_ret
  exact ⟨Xi t.out.symm,Below.refl _ _⟩
 by_cases h2:40<fs.length
 ·have t:Hid (okF fs=false):=Xdm (Or.inr h2)
  have S:¬(fs.length:Int)<1:=by omega
  have be:(40:Int)<(fs.length:Int):=by omega
  go_enter Tryz.func28,Tryz.ntmps28
  go_wp2_with fail
  go_ret
  exact ⟨Xi t.out.symm,Below.refl _ _⟩
 have S:¬(fs.length:Int)<1:=by omega
 have be:¬(40:Int)<(fs.length:Int):=by omega
 obtain ⟨b0,o0,rfl,bf,hc⟩:=s (by omega)
 clear s
 have bg:=run_make_row' (P:=Tryz.prog) 71 73 (.slice none 0 0) 24 Tryz.underlying71 Xxr rfl .i64 .i64 fs.length (by omega) (by omega)
 go_enter Tryz.func28,Tryz.ntmps28
 go_wp2_with fail
 clear bg
 have T:(w.alloc (.cells (madeCells #[Value.slice none 0 0] fs.length) 73)).rowIs w.heap.size 73 fs.length (Vo (fun _=>undef) 0):=(World.rowIs_made w _ _ _).congr fun i _=>by simp[Vo]
 have V:Below w.heap.size w (w.alloc (.cells (madeCells #[Value.slice none 0 0] fs.length) 73)):=(Below.refl _ _).alloc (Nat.le_refl _) _
 go_loopw [19] (fun i wr=>∃(k:Nat) (L:Nat->Value),k<=fs.length/\i= .int .i64 k/\wr.rowIs w.heap.size 73 fs.length (Vo L k)/\(∀j,j<k->Xv (Xo fs j)=true/\IntsAt B w (L j) (Qx fs j))/\Below w.heap.size w wr) (fun i _=>fs.length-(intOf i).toNat)
 case atStart=>exact ⟨0,_,Nat.zero_le _,rfl,T,fun j hj=>by omega,V⟩
 case round=>
  obtain ⟨k,L,hk,rfl,c,F,g⟩:=hrel
  have HA:=Xa F
  have HC:=Xa hc
  clear F T V hc
  by_cases hlt:k<fs.length
  ·obtain ⟨kc,kn,ki,hn⟩:=HC.out k hlt
   have b:=hn.below (g.mono hB) bf
   have c0:=b.c0
   have c1:=b.c1
   have c2:=b.c2
   have c3:=b.c3
   have c4:=b.c4
   have c5:=b.c5
   have bh:=Xa b.inn
   have X:=Xa hn.inn.kids
   have M:=g.size
   have Y:=c.lt
   obtain ⟨_,aC,cC,eC,_⟩:=b.inn.cst
   obtain ⟨_,_,aK,cK,eK,_⟩:=b.inn.names
   obtain ⟨_,_,aI,cI,eI,_⟩:=b.inn.kids
   subst eC eK eI
   have HR:=Xa c
   clear hn b c
   obtain ⟨O,hO⟩:∃O,O=Obj.cells #[.int .i64 (Xo fs k).kind, .string (Xo fs k).name, .int .i64 (Xo fs k).place, .slice aC (Xo fs k).cst.length cC, .slice aK (Xo fs k).names.length cK, .slice aI (Xo fs k).kids.length cI] 84:=⟨_,rfl⟩
   have R:Below w.heap.size w (wr.alloc O):=g.alloc M _
   have Z:Below wr.heap.size wr (wr.alloc O):=(Below.refl _ _).alloc (Nat.le_refl _) _
   rw[hO] at R Z
   have y:=Xa (bh.out.below (Z.mono (by omega)))
   clear hO
   by_cases hz:Uz (Xo fs k)=true
   case neg=>
    have bi:Uz (Xo fs k)=false:=by simpa using hz
    have t:Hid (okF fs=false):=Xdn hlt (by rw[Xv,bi,Bool.false_and,Bool.false_and])
    clear hz
    go_wp2_with fail
    refine (Xcu B (Xo fs k) _ _ _ _ y.out).mono ?_
    rintro e w1 ⟨rfl,d⟩
    go_wp2_with fail
    go_ret
    exact ⟨Xi t.out.symm,R.trans (d.mono (by simp;omega))⟩
   case pos=>
   go_wp2_with fail
   refine (Xcu B (Xo fs k) _ _ _ _ y.out).mono ?_
   rintro e w1 ⟨rfl,d⟩
   have ba:∀o,w1.cell? ⟨wr.heap.size,o,none⟩=_:=fun o=>d.cell (p:=⟨wr.heap.size,o,none⟩) (by simp)
   have bj:=d.size
   simp only[World.size_alloc] at bj
   have G:Below w.heap.size w w1:=R.trans (d.mono (by simp;omega))
   have l:=Xa (y.out.below (d.mono (by simp;omega)))
   by_cases ho:J1 (Xo fs k)=true
   case neg=>
    have bk:J1 (Xo fs k)=false:=by simpa using ho
    have t:Hid (okF fs=false):=Xdn hlt (by rw[Xv,bk,Bool.and_false,Bool.false_and])
    clear ho
    go_wp2_with fail
    refine (Xb8 B (Xo fs k) _ _ _ _ l.out (by omega)).mono ?_
    rintro e w2 ⟨rfl,q⟩
    go_wp2_with fail
    go_ret
    exact ⟨Xi t.out.symm,G.trans (q.mono (by omega))⟩
   case pos=>
   go_wp2_with fail
   refine (Xb8 B (Xo fs k) _ _ _ _ l.out (by omega)).mono ?_
   rintro e w2 ⟨rfl,q⟩
   have bb:∀o,w2.cell? ⟨wr.heap.size,o,none⟩=_:=fun o=>(q.cell (p:=⟨wr.heap.size,o,none⟩) (by show wr.heap.size<w1.heap.size;omega)).trans (ba o)
   have br:=q.size
   have J:Below w.heap.size w w2:=G.trans (q.mono (by omega))
   have z:=Xa (l.out.below (q.mono (by omega)))
   have C:w2.rowIs w.heap.size 73 fs.length (Vo L k):=Y4 (Y4 (HR.out.alloc _) d (by simp;omega)) q (by omega)
   have bl:=Xa C
   clear ba C
   by_cases hf:Jm (Xo fs k)=true
   case neg=>
    have bm:Jm (Xo fs k)=false:=by simpa using hf
    have t:Hid (okF fs=false):=Xdn hlt (by rw[Xv,bm,Bool.and_false])
    clear hf
    go_wp2_with fail
    refine (Xgm B (Xo fs k) _ _ _ _ z.out).mono ?_
    rintro e w3 ⟨rfl,D⟩
    go_wp2_with fail
    go_ret
    exact ⟨Xi t.out.symm,J.trans (D.mono (by omega))⟩
   case pos=>
   have HN:Hid (Xv (Xo fs k)=true):=by rw[Hid,Xv,hz,ho,hf];rfl
   go_wp2_with fail
   refine (Xgm B (Xo fs k) _ _ _ _ z.out).mono ?_
   rintro e w3 ⟨rfl,D⟩
   have bs:∀o,w3.cell? ⟨wr.heap.size,o,none⟩=_:=fun o=>(D.cell (p:=⟨wr.heap.size,o,none⟩) (by show wr.heap.size<w2.heap.size;omega)).trans (bb o)
   have bc:Below w.heap.size w w3:=J.trans (D.mono (by omega))
   have f:w3.rowIs w.heap.size 73 fs.length (Vo L k):=Y4 bl.out D (by omega)
   have bt:=f.cell hlt
   have bu:=f.frozen k
   have bd:=Xa (Xip (v:= .slice aI (Xo fs k).kids.length cI) f)
   have bn:=Xa (bc.setCell (p:=⟨w.heap.size,k,none⟩) (Nat.le_refl _) (.slice aI (Xo fs k).kids.length cI))
   have bo:Hid (∀j,j<k+1->Xv (Xo fs j)=true/\IntsAt B w (if j=k then .slice aI (Xo fs k).kids.length cI else L j) (Qx fs j)):=fun j hj=>by
    by_cases e:j=k
    ·subst e;rw[if_pos rfl];exact ⟨HN.out,X.out⟩
    ·rw[if_neg e];exact HA.out j (by omega)
   clear f bb
   go_wp2_with fail
   go_roundw
   case rel=>exact ⟨k+1,_,by omega,by go_num,bd.out,bo.out,bn.out⟩
   case measure=>simp[intOf];omega
  ·obtain rfl:k=fs.length:=by omega
   have t:Hid (okF fs=Kb (Qx fs) fs.length 12):=HE.out.symm.trans (Xz2 (by omega) (by omega) (fun j hj=>(HA.out j hj).1))
   have Y:=c.lt
   have HR:=Xa c
   clear c
   go_wp2_with fail
   refine (Xc0 12 (w.heap.size+1) w.heap.size fs.length (Qx fs) L _ (by omega) (by omega) (by omega) (by omega) (fun i hi=>⟨?_, ?_⟩)).mono ?_
   ·rw[HR.out.cell hi,Vo,if_pos hi]
   ·exact ((HA.out i hi).2.below (g.mono hB)).wide (by omega)
   ·rintro e w1 ⟨rfl,d⟩
    go_wp2_with fail
    go_ret
    exact ⟨Xi t.out.symm,g.trans (d.mono (by omega))⟩


theorem Xbp (c:Nat) (w:World) (hc:c<256):
  Calls Tryz.prog 162 #[.int .u8 c] w fun e w'=>e= .returned (.bool (Jl c))/\w'=w:=by
 go_enter Tryz.func162,Tryz.ntmps162
 go_wp2_with fail
 all_goals
  go_ret
  refine ⟨Xi ?_,rfl⟩
  rw[Bool.eq_iff_iff]
  simp[Jl]
  omega
theorem Uw (s:ByteArray) (w:World) (hs:s.size<=140737488355328):
  Calls Tryz.prog 126 #[.string s] w fun e w'=>e= .returned (.bool (Y1 s))/\w'=w:=by
 by_cases h0:s.size=0
 ·have C:(s.toList== [])=true:=by simpa using Xdj.2 h0
  have H:Hid (Y1 s=false):=by simp[Hid,Y1,h0]
  clear h0
  go_enter Tryz.func126,Tryz.ntmps126
  go_wp2
  go_ret
  exact ⟨Xi H.out.symm,rfl⟩
 have C:(s.toList== [])=false:=by simpa using fun e=>h0 (Xdj.1 e)
 by_cases h60:60<s.size
 ·have H:Hid (Y1 s=false):=by simp[Hid,Y1];omega
  have D:(60:Int)<(s.size:Int):=by omega
  go_enter Tryz.func126,Tryz.ntmps126
  go_wp2
  go_ret
  exact ⟨Xi H.out.symm,rfl⟩
 have D:¬(60:Int)<(s.size:Int):=by omega
 have y:0<s.size:=by omega
 have b:=Uy y
 cases hl:Jl (Zc s 0)
 ·have H:Hid (Y1 s=false):=by rw[Hid,Y1,hl];simp
  have p:=Xa b
  have o:=Xa hl
  clear hl b
  go_enter Tryz.func126,Tryz.ntmps126
  go_wp2_with fail
  refine (Xbp _ w (Xf2 _)).mono ?_
  rintro e z ⟨rfl,rfl⟩
  rw[p.out,o.out]
  go_wp2_with fail
  go_ret
  exact ⟨Xi H.out.symm,rfl⟩
 have p:=Xa b
 have o:=Xa hl
 clear hl b
 go_enter Tryz.func126,Tryz.ntmps126
 go_wp2_with fail
 refine (Xbp _ w (Xf2 _)).mono ?_
 rintro e z ⟨rfl,rfl⟩
 rw[p.out,o.out]
 go_wp2_with fail
 go_loopw [3] (fun i wr=>∃k:Nat,k<=s.size/\i= .int .i64 k/\Hid (∀j,j<k->(Jl (Zc s j)||Vb (Zc s j))=true)/\wr=z) (fun i _=>s.size-(intOf i).toNat)
 case atStart=>exact ⟨0,Nat.zero_le _,rfl,fun j h=>absurd h (by omega),rfl⟩
 case round =>
  obtain ⟨k,F,rfl,B,rfl⟩:=hrel
  by_cases hlt:k<s.size
  ·have c:=Xa (Uy hlt)
   have d:Hid ((Jl (Zc s k)||Vb (Zc s k))=true->∀j,j<k+1->(Jl (Zc s j)||Vb (Zc s j))=true):=fun hc j hj=>by
    by_cases e:j=k
    ·subst e;exact hc
    ·exact B.out j (by omega)
   have l:Hid ((Jl (Zc s k)||Vb (Zc s k))=false->Y1 s=false):=fun hc=>Xng hlt hc
   go_wp2_with fail
   refine (Xbp _ _ (Xf2 _)).mono ?_
   rintro e G ⟨rfl,rfl⟩
   rw[c.out]
   cases hc:Jl (Zc s k)
   ·have f:=Xa hc
    clear hc
    by_cases d1:s[k].toNat<48
    ·have q:(s[k].toNat:Int)<48:=by omega
     have H:Hid (Y1 s=false):=l.out (by rw[f.out,Bool.false_or,<-c.out];unfold Vb;simp;omega)
     go_wp2_with fail
     go_ret
     exact ⟨Xi H.out.symm,rfl⟩
    ·have q:¬(s[k].toNat:Int)<48:=by omega
     by_cases d2:57<s[k].toNat
     ·have t:(57:Int)<(s[k].toNat:Int):=by omega
      have H:Hid (Y1 s=false):=l.out (by rw[f.out,Bool.false_or,<-c.out];unfold Vb;simp;omega)
      go_wp2_with fail
      go_ret
      exact ⟨Xi H.out.symm,rfl⟩
     ·have t:¬(57:Int)<(s[k].toNat:Int):=by omega
      have g:=Xa (d.out (by rw[f.out,Bool.false_or,<-c.out];unfold Vb;simp;omega))
      go_wp2_with fail
      go_roundw
      case rel=>exact ⟨k+1,by omega,by go_num,g,by trivial⟩
      case measure=>simp[intOf];omega
   ·have g:=Xa (d.out (by rw[hc,Bool.true_or]))
    clear hc
    go_wp2_with fail
    go_roundw
    case rel=>exact ⟨k+1,by omega,by go_num,g,by trivial⟩
    case measure=>simp[intOf];omega
  ·have H:Hid (Y1 s=true):=Xky y (by omega) o.out (fun j hj=>B.out j (by omega))
   go_wp2_with fail
   go_ret
   exact ⟨Xi H.out.symm,rfl⟩
theorem X4z {a b:Int} (h:a=b):Ending.returned (.int .i64 a)= .returned (.int .i64 b):=by rw[h]
theorem Xif (k:Int) (w:World):
  Calls Tryz.prog 125 #[.int .i64 k] w fun e w'=>e= .returned (.int .i64 (kidsN k))/\w'=w:=by
 go_enter Tryz.func125,Tryz.ntmps125
 go_wp2_with fail
 all_goals
  go_ret
  refine ⟨X4z ?_,rfl⟩
  go_light
  simp_all [kidsN]


theorem X1g {k:Int} (h8:k≠8) (h9:k≠9):0<=kidsN k:=by
 unfold kidsN
 split
 ·omega
 ·split
  ·omega
  ·split
   ·omega
   ·split<;>omega
theorem X4n {x:FN} (h:inB x.kind 1 23=false):Xv x=false:=by
 have b:Jm x=false:=by
  unfold inB at h
  unfold Jm
  rw[if_neg,if_neg]
  ·rw[h,Bool.false_and]
  ·rintro e;rw[e] at h;revert h;decide
  ·rintro e;rw[e] at h;revert h;decide
 rw[Xv,b,Bool.and_false]
theorem Xo1 {x:FN} (h:Jm x=false):Xv x=false:=by rw[Xv,h,Bool.and_false]
theorem Xo2 {x:FN} (h9:x.kind≠9) (h:0<x.names.length):Xv x=false:=by
 have:Uz x=false:=by unfold Uz;simp[h9,h]
 rw[Xv,this,Bool.false_and,Bool.false_and]
theorem X47 {v:List VN} (h1:v.length=1) (hok:okB v=true):(decide ((Xb v 0).kind≠5)&&decide ((Xb v 0).kind≠6))=decide ((Xb v 0).kind<=4):=by
 have b:Xz (Xb v 0)=true:=by
  unfold okB at hok
  simp only[Bool.and_eq_true,List.all_eq_true,List.mem_range] at hok
  exact (hok.1.2 0 (by omega)).1
 unfold Xz at b
 rw[Bool.and_eq_true] at b
 have c : (Xb v 0).kind = 1 \/ (Xb v 0).kind = 5 \/ (Xb v 0).kind = 2 \/ (Xb v 0).kind = 3 \/ (Xb v 0).kind = 4 \/ (Xb v 0).kind = 6 := by
  have:=b.2
  unfold Zi at this
  split at this
  ·rename_i h;rcases h with h|h<;>simp[h]
  ·split at this
   ·rename_i h;simp[h]
   ·split at this
    ·rename_i h;simp[h]
    ·split at this
     ·rename_i h;simp[h]
     ·split at this
      ·rename_i h;simp[h]
      ·cases this
 rcases c with h|h|h|h|h|h<;>rw[h]<;>decide
theorem X48 {x:FN} (h5:x.kind=5) (hf:Jm x=true) (hnm:x.names.length=0):Xv x=(decide (x.name.toList= [])&&decide (x.place=0)&&Vn x.cst):=by
 rw[Xv,hf,Bool.and_true]
 unfold Uz J1
 simp[h5,hnm]
theorem Xsn {x:FN} (h5:x.kind≠5) (h9:x.kind≠9) (hf:Jm x=true) (hnm:x.names.length=0):
  Xv x=((if x.kind=2 then Y1 x.name else decide (x.name.toList= []))&&(decide (x.cst.length=0)&&(if x.kind=3 then inB x.place (-80) 80 else decide (x.place=0)))):=by
 rw[Xv,hf,Bool.and_true]
 unfold Uz J1 inB
 by_cases h2:x.kind=2
 ·simp[h2,hnm,Bool.and_comm,Bool.and_left_comm]
  cases x.cst<;>simp
 ·by_cases h3:x.kind=3
  ·simp[h3,hnm,Bool.and_assoc]
   cases x.cst<;>simp
  ·simp[h2,h3,h5,h9,hnm,Bool.and_comm,Bool.and_left_comm]
   cases x.cst<;>simp
theorem X43 {x:FN} (h:x.kind=8):Jm x=decide (x.kids.length<=1):=by unfold Jm;rw[if_pos h]
theorem X44 {x:FN} (h:x.kind=9):Jm x=decide (x.kids.length=x.names.length):=by unfold Jm;rw[if_neg (by omega),if_pos h]
theorem X45 {x:FN} (h8:x.kind≠8) (h9:x.kind≠9) (hin:inB x.kind 1 23=true):Jm x=decide ((x.kids.length:Int)=kidsN x.kind):=by
 unfold Jm inB at *
 rw[if_neg h8,if_neg h9,hin,Bool.true_and]
theorem X49 {x:FN} (h9:x.kind=9):Xv x=(decide (x.name.toList= [])&&(decide (x.place=0)&&(decide (x.cst.length=0)&&(Qz x.names&&decide (x.kids.length=x.names.length))))):=by
 rw[Xv,X44 h9]
 unfold Uz J1
 simp[h9,Bool.and_assoc]
 cases x.cst<;>simp
theorem Xuo (B:Nat) (x:FN) (kc kn ki:Value) (w:World) (h:FNodeIn B w x kc kn ki) (hB:B<=w.heap.size) (h9:x.kind≠9):
  Calls Tryz.prog 66 #[.agg #[.int .i64 x.kind, .string x.name, .int .i64 x.place,kc,kn,ki]] w fun e w'=>e= .returned (.bool (Xv x))/\Below w.heap.size w w':=by
 have bc:=h.size
 have HC:=Xa h.cst
 obtain ⟨bl,a0,c0,e0,L⟩:=h.cst
 obtain ⟨bm,_,a1,c1,d,_⟩:=h.names
 obtain ⟨bn,_,a2,c2,l,_⟩:=h.kids
 subst e0 d l
 have bd:=Xa L
 clear h L
 obtain ⟨t,f⟩:∃t,t=w.alloc (.cells #[.int .i64 x.kind, .string x.name, .int .i64 x.place, .slice a0 x.cst.length c0, .slice a1 x.names.length c1, .slice a2 x.kids.length c2] 84):=⟨_,rfl⟩
 have d0:t.cell? ⟨w.heap.size,0,none⟩=some (.int .i64 x.kind):=by rw[f];simp
 have d1:t.cell? ⟨w.heap.size,1,none⟩=some (.string x.name):=by rw[f];simp
 have d2:t.cell? ⟨w.heap.size,2,none⟩=some (.int .i64 x.place):=by rw[f];simp
 have d3:t.cell? ⟨w.heap.size,3,none⟩=some (.slice a0 x.cst.length c0):=by rw[f];simp
 have d4:t.cell? ⟨w.heap.size,4,none⟩=some (.slice a1 x.names.length c1):=by rw[f];simp
 have d5:t.cell? ⟨w.heap.size,5,none⟩=some (.slice a2 x.kids.length c2):=by rw[f];simp
 have HZ:Hid (t.heap.size=w.heap.size+1):=by rw[Hid,f];simp
 have c:Hid (Below w.heap.size w t):=by rw[Hid,f];exact (Below.refl _ _).alloc (Nat.le_refl _) _
 have be:=Xa f
 clear f
 have J:=Xa h9
 have q9:(x.kind==9)=false:=by simp[h9]
 have bo:(x.kind !=9)=true:=by simp[h9]
 clear h9
 go_enter Tryz.func66,Tryz.ntmps66
 go_wp2_with fail
 rw[<-be.out]
 refine (Xif _ _).mono ?_
 rintro e w1 ⟨rfl,z⟩
 subst z
 obtain ⟨M,P⟩:∃M,kidsN x.kind=M:=⟨_,rfl⟩
 rw[P]
 have HM:=Xa P
 clear P
 go_wp2_with fail
 refine (Vx _ _ _ _).mono ?_
 rintro e w1 ⟨rfl,z⟩
 subst z
 cases hin:inB x.kind 1 23
 ·have H:=Xa (X4n hin)
  clear hin
  go_wp2_with fail
  go_ret
  exact ⟨Xi H.out.symm,c.out⟩
 have bf:=Xa hin
 clear hin
 by_cases k8:x.kind=8
 case pos=>
  have q8:(x.kind==8)=true:=by simp[k8]
  have P:M= -1:=by rw[<-HM.out,k8];decide
  subst P
  have R:=Xa (X43 k8)
  have y:x.kind≠5:=by omega
  have q5:(x.kind==5)=false:=by simp[y]
  have q2:(x.kind==2)=false:=by rw[beq_eq_false_iff_ne];omega
  have S:(x.kind !=2)=true:=by rw[bne_iff_ne];omega
  have q3:(x.kind==3)=false:=by rw[beq_eq_false_iff_ne];omega
  have HR:Hid (Jm x=true->x.names.length=0->Xv x=(decide (x.name.toList= [])&&(decide (x.cst.length=0)&&decide (x.place=0)))):=fun h1 h2=>by
   rw[Xsn y J.out h1 h2,if_neg (by omega),if_neg (by omega)]
  clear k8 y
  by_cases hk:1<x.kids.length
  ·have H:Hid (Xv x=false):=Xo1 (by rw[R.out];simp;omega)
   have C:(1:Int)<(x.kids.length:Int):=by omega
   go_wp2_with fail
   go_ret
   exact ⟨Xi H.out.symm,c.out⟩
  have C:¬(1:Int)<(x.kids.length:Int):=by omega
  by_cases hn:0<x.names.length
  ·have H:=Xa (Xo2 J.out hn)
   have D:(0:Int)<(x.names.length:Int):=by omega
   go_wp2_with fail
   go_ret
   exact ⟨Xi H.out.symm,c.out⟩
  have D:¬(0:Int)<(x.names.length:Int):=by omega
  have p:=Xa (HR.out (by rw[R.out];simp;omega) (by omega))
  go_wp2_with fail
  go_loopw [4] (fun i wr=>i= .int .i64 0/\wr=w1) (fun _ _=>0)
  case atStart=>exact ⟨rfl,rfl⟩
  case round=>
   obtain ⟨rfl,rfl⟩:=hrel
   by_cases d:x.name.toList= []
   case neg=>
    have p1:(x.name.toList != [])=true:=by simp[d]
    have q:(x.name.toList== [])=false:=by simp[d]
    have H:Hid (Xv x=false):=by rw[Hid,p.out];simp[d]
    clear d
    go_wp2_with fail
    go_ret
    exact ⟨Xi H.out.symm,c.out⟩
   case pos=>
   have p1:(x.name.toList != [])=false:=by simp[d]
   have q:(x.name.toList== [])=true:=by simp[d]
   have T:=Xa d
   clear d
   by_cases l:x.cst.length=0
   case neg=>
    have V:((x.cst.length:Int)==0)=false:=by rw[beq_eq_false_iff_ne];omega
    have H:Hid (Xv x=false):=by rw[Hid,p.out];simp[l]
    clear l
    go_wp2_with fail
    go_ret
    exact ⟨Xi H.out.symm,c.out⟩
   case pos=>
   have V:((x.cst.length:Int)==0)=true:=by rw[beq_iff_eq];omega
   by_cases e3:x.place=0
   case neg=>
    have F:(x.place==0)=false:=by simp[e3]
    have H:Hid (Xv x=false):=by rw[Hid,p.out];simp[e3]
    clear l e3
    go_wp2_with fail
    go_ret
    exact ⟨Xi H.out.symm,c.out⟩
   case pos=>
   have F:(x.place==0)=true:=by simp[e3]
   have H:Hid (Xv x=true):=by rw[Hid,p.out];simp[T.out,l,e3]
   clear l e3
   go_wp2_with fail
   go_ret
   exact ⟨Xi H.out.symm,c.out⟩
 case neg=>
 have q8:(x.kind==8)=false:=by simp[k8]
 have bp:0<=M:=by rw[<-HM.out];exact X1g k8 J.out
 have R:Hid (Jm x=decide ((x.kids.length:Int)=M)):=by rw[Hid,<-HM.out];exact X45 k8 J.out bf.out
 clear k8
 by_cases hk:(x.kids.length:Int)=M
 case neg=>
  have C:((x.kids.length:Int) !=M)=true:=by rw[bne_iff_ne];exact hk
  have H:Hid (Xv x=false):=Xo1 (by rw[R.out];simp[hk])
  clear hk
  go_wp2_with fail
  go_ret
  exact ⟨Xi H.out.symm,c.out⟩
 case pos=>
 have X:Hid (Jm x=true):=by rw[Hid,R.out];simp[hk]
 have C:((x.kids.length:Int) !=M)=false:=by rw[hk];simp
 have bq:=Xa hk
 clear hk
 by_cases hn:0<x.names.length
 ·have H:=Xa (Xo2 J.out hn)
  have D:(0:Int)<(x.names.length:Int):=by omega
  go_wp2_with fail
  go_ret
  exact ⟨Xi H.out.symm,c.out⟩
 have D:¬(0:Int)<(x.names.length:Int):=by omega
 have Y:x.names.length=0:=by omega
 have Z:=Xa Y
 clear hn Y
 go_wp2_with fail
 go_loopw [4] (fun i wr=>i= .int .i64 0/\wr=w1) (fun _ _=>0)
 case atStart=>exact ⟨rfl,rfl⟩
 case round=>
  obtain ⟨rfl,rfl⟩:=hrel
  by_cases y:x.kind=5
  case pos=>
   have q5:(x.kind==5)=true:=by simp[y]
   have p:=Xa (X48 y X.out Z.out)
   clear y
   by_cases d:x.name.toList= []
   case neg=>
    have q:(x.name.toList== [])=false:=by simp[d]
    have H:Hid (Xv x=false):=by rw[Hid,p.out];simp[d]
    clear d
    go_wp2_with fail
    go_ret
    exact ⟨Xi H.out.symm,c.out⟩
   case pos=>
   have q:(x.name.toList== [])=true:=by simp[d]
   have T:=Xa d
   clear d
   by_cases e3:x.place=0
   case neg=>
    have F:(x.place==0)=false:=by simp[e3]
    have H:Hid (Xv x=false):=by rw[Hid,p.out];simp[e3]
    clear e3
    go_wp2_with fail
    go_ret
    exact ⟨Xi H.out.symm,c.out⟩
   case pos=>
   have F:(x.place==0)=true:=by simp[e3]
   have E3:=Xa e3
   clear e3
   have g:Hid (Xv x=Vn x.cst):=by rw[Hid,p.out];simp[T.out,E3.out]
   by_cases e4:x.cst.length=1
   case neg=>
    have p4:((x.cst.length:Int)==1)=false:=by rw[beq_eq_false_iff_ne];omega
    have H:Hid (Xv x=false):=by rw[Hid,g.out];simp[Vn,e4]
    clear e4
    go_wp2_with fail
    go_ret
    exact ⟨Xi H.out.symm,c.out⟩
   case pos=>
   have p4:((x.cst.length:Int)==1)=true:=by rw[beq_iff_eq];omega
   have hp:0<x.cst.length:=by omega
   have E4:=Xa e4
   clear e4
   obtain ⟨b,o,rfl,br,hc⟩:=bd.out hp
   obtain ⟨ka,bs,ba⟩:=hc 0 hp
   have g0:=(Xc c.out (show b<w.heap.size by omega)).trans ba.c0
   rw[Nat.zero_mul,Nat.add_zero] at g0
   clear hc ba
   have bg:=Xa (HC.out.below (c.out.mono hB))
   have bh:B<=wr.heap.size:=by rw[HZ.out];omega
   have bi:=Xa g0
   have bj:=Xa d3
   clear g0
   go_wp2_with fail
   refine (Xax B _ x.cst wr bg.out bh).mono ?_
   rintro e w2 ⟨rfl,s⟩
   have bt:=Xa s
   have j3:=(Xc s (show w.heap.size<wr.heap.size by rw[HZ.out];omega)).trans bj.out
   have g1:=(Xc s (show b<wr.heap.size by rw[HZ.out];omega)).trans bi.out
   have bb:Hid (Below w.heap.size w w2):=c.out.trans (s.mono (by rw[HZ.out];omega))
   clear s d0 d1 d2 d3 d4 d5
   cases hok:okB x.cst
   ·have H:Hid (Xv x=false):=by rw[Hid,g.out];simp[Vn,hok]
    clear hok
    go_wp2_with fail
    go_ret
    exact ⟨Xi H.out.symm,bb.out⟩
   ·have j:Hid (Xv x=decide ((Xb x.cst 0).kind<=4)):=by
     rw[Hid,g.out,<-X47 E4.out hok]
     simp[Vn,hok,E4.out]
    clear hok
    go_wp2_with fail
    go_ret
    exact ⟨Xi j.out.symm,bb.out⟩
  case neg=>
  have q5:(x.kind==5)=false:=by simp[y]
  have p:=Xa (Xsn y J.out X.out Z.out)
  clear y
  by_cases k2:x.kind=2
  case pos=>
   have q2:(x.kind==2)=true:=by simp[k2]
   have S:(x.kind !=2)=false:=by simp[k2]
   have q3:(x.kind==3)=false:=by rw[beq_eq_false_iff_ne];omega
   have g:Hid (Xv x=(Y1 x.name&&(decide (x.cst.length=0)&&decide (x.place=0)))):=by rw[Hid,p.out,if_pos k2,if_neg (by omega)]
   clear k2
   go_wp2_with fail
   refine (Uw _ _ bc).mono ?_
   rintro e w2 ⟨rfl,G⟩
   subst G
   cases hnm:Y1 x.name
   ·have H:Hid (Xv x=false):=by rw[Hid,g.out,hnm,Bool.false_and]
    clear hnm
    go_wp2_with fail
    go_ret
    exact ⟨Xi H.out.symm,c.out⟩
   have j:Hid (Xv x=(decide (x.cst.length=0)&&decide (x.place=0))):=by rw[Hid,g.out,hnm,Bool.true_and]
   clear hnm
   by_cases l:x.cst.length=0
   case neg=>
    have V:((x.cst.length:Int)==0)=false:=by rw[beq_eq_false_iff_ne];omega
    have H:Hid (Xv x=false):=by rw[Hid,j.out];simp[l]
    clear l
    go_wp2_with fail
    go_ret
    exact ⟨Xi H.out.symm,c.out⟩
   case pos=>
   have V:((x.cst.length:Int)==0)=true:=by rw[beq_iff_eq];omega
   by_cases e3:x.place=0
   case neg=>
    have F:(x.place==0)=false:=by simp[e3]
    have H:Hid (Xv x=false):=by rw[Hid,j.out];simp[e3]
    clear l e3
    go_wp2_with fail
    go_ret
    exact ⟨Xi H.out.symm,c.out⟩
   case pos=>
   have F:(x.place==0)=true:=by simp[e3]
   have H:Hid (Xv x=true):=by rw[Hid,j.out];simp[l,e3]
   clear l e3
   go_wp2_with fail
   go_ret
   exact ⟨Xi H.out.symm,c.out⟩
  case neg=>
  have q2:(x.kind==2)=false:=by simp[k2]
  have S:(x.kind !=2)=true:=by simp[k2]
  have g:Hid (Xv x=(decide (x.name.toList= [])&&(decide (x.cst.length=0)&&(if x.kind=3 then inB x.place (-80) 80 else decide (x.place=0))))):=by rw[Hid,p.out,if_neg k2]
  clear k2
  by_cases d:x.name.toList= []
  case neg=>
   have p1:(x.name.toList != [])=true:=by simp[d]
   have q:(x.name.toList== [])=false:=by simp[d]
   have H:Hid (Xv x=false):=by rw[Hid,g.out];simp[d]
   clear d
   go_wp2_with fail
   go_ret
   exact ⟨Xi H.out.symm,c.out⟩
  case pos=>
  have p1:(x.name.toList != [])=false:=by simp[d]
  have q:(x.name.toList== [])=true:=by simp[d]
  have T:=Xa d
  clear d
  by_cases l:x.cst.length=0
  case neg=>
   have V:((x.cst.length:Int)==0)=false:=by rw[beq_eq_false_iff_ne];omega
   have H:Hid (Xv x=false):=by rw[Hid,g.out];simp[l]
   clear l
   go_wp2_with fail
   go_ret
   exact ⟨Xi H.out.symm,c.out⟩
  case pos=>
  have V:((x.cst.length:Int)==0)=true:=by rw[beq_iff_eq];omega
  have j:Hid (Xv x=(if x.kind=3 then inB x.place (-80) 80 else decide (x.place=0))):=by rw[Hid,g.out];simp[T.out,l]
  clear l
  by_cases e3:x.place=0
  case pos=>
   have F:(x.place==0)=true:=by simp[e3]
   have H:Hid (Xv x=true):=by rw[Hid,j.out,e3];split<;>decide
   clear e3
   go_wp2_with fail
   go_ret
   exact ⟨Xi H.out.symm,c.out⟩
  case neg=>
  have F:(x.place==0)=false:=by simp[e3]
  have E3:=Xa e3
  clear e3
  by_cases k3:x.kind=3
  case neg=>
   have q3:(x.kind==3)=false:=by simp[k3]
   have H:Hid (Xv x=false):=by rw[Hid,j.out,if_neg k3];simp[E3.out]
   clear k3
   go_wp2_with fail
   go_ret
   exact ⟨Xi H.out.symm,c.out⟩
  case pos=>
  have q3:(x.kind==3)=true:=by simp[k3]
  have bk:Hid (Xv x=inB x.place (-80) 80):=by rw[Hid,j.out,if_pos k3]
  clear k3
  go_wp2_with fail
  refine (Vx _ _ _ _).mono ?_
  rintro e w2 ⟨rfl,G⟩
  subst G
  go_wp2_with fail
  go_ret
  exact ⟨Xi bk.out.symm,c.out⟩
theorem Xup (B:Nat) (x:FN) (kc kn ki:Value) (w:World) (h:FNodeIn B w x kc kn ki) (hB:B<=w.heap.size) (h9:x.kind=9):
  Calls Tryz.prog 66 #[.agg #[.int .i64 x.kind, .string x.name, .int .i64 x.place,kc,kn,ki]] w fun e w'=>e= .returned (.bool (Xv x))/\Below w.heap.size w w':=by
 have L:=Xa (X49 h9)
 obtain ⟨bj,a0,c0,q,_⟩:=h.cst
 obtain ⟨bk,M,a1,c1,l,t⟩:=h.names
 obtain ⟨bl,_,a2,c2,s,_⟩:=h.kids
 subst q l s
 have ba:=Xa t
 have bb:=Xa M
 clear h t M
 obtain ⟨y,f⟩:∃y,y=w.alloc (.cells #[.int .i64 x.kind, .string x.name, .int .i64 x.place, .slice a0 x.cst.length c0, .slice a1 x.names.length c1, .slice a2 x.kids.length c2] 84):=⟨_,rfl⟩
 have d0:y.cell? ⟨w.heap.size,0,none⟩=some (.int .i64 x.kind):=by rw[f];simp
 have d1:y.cell? ⟨w.heap.size,1,none⟩=some (.string x.name):=by rw[f];simp
 have d2:y.cell? ⟨w.heap.size,2,none⟩=some (.int .i64 x.place):=by rw[f];simp
 have d3:y.cell? ⟨w.heap.size,3,none⟩=some (.slice a0 x.cst.length c0):=by rw[f];simp
 have d4:y.cell? ⟨w.heap.size,4,none⟩=some (.slice a1 x.names.length c1):=by rw[f];simp
 have d5:y.cell? ⟨w.heap.size,5,none⟩=some (.slice a2 x.kids.length c2):=by rw[f];simp
 have HZ:Hid (y.heap.size=w.heap.size+1):=by rw[Hid,f];simp
 have z:Hid (Below w.heap.size w y):=by rw[Hid,f];exact (Below.refl _ _).alloc (Nat.le_refl _) _
 have bc:=Xa f
 clear f
 have HK:=Xa h9
 have q9:(x.kind==9)=true:=by simp[h9]
 have bm:(x.kind !=9)=false:=by simp[h9]
 have q8:(x.kind==8)=false:=by rw[beq_eq_false_iff_ne];omega
 have q5:(x.kind==5)=false:=by rw[beq_eq_false_iff_ne];omega
 have q2:(x.kind==2)=false:=by rw[beq_eq_false_iff_ne];omega
 have bn:(x.kind !=2)=true:=by rw[bne_iff_ne];omega
 have q3:(x.kind==3)=false:=by rw[beq_eq_false_iff_ne];omega
 clear h9
 go_enter Tryz.func66,Tryz.ntmps66
 go_wp2_with fail
 rw[<-bc.out]
 refine (Xif _ _).mono ?_
 rintro e w1 ⟨rfl,C⟩
 subst C
 have HM:Hid (kidsN x.kind= -1):=by rw[Hid,HK.out];decide
 rw[HM.out]
 go_wp2_with fail
 refine (Vx _ _ _ _).mono ?_
 rintro e w1 ⟨rfl,C⟩
 subst C
 have bd:Hid (inB x.kind 1 23=true):=by rw[Hid,HK.out];decide
 rw[bd.out]
 by_cases hk:5<x.kids.length
 ·have H:Hid (Xv x=false):=by
   rw[Hid,L.out]
   by_cases e:x.kids.length=x.names.length
   ·have:Qz x.names=false:=by simp[Qz];omega
    simp[this]
   ·simp[e]
  have be:(5:Int)<(x.kids.length:Int):=by omega
  go_wp2_with fail
  all_goals
   go_ret
   exact ⟨Xi H.out.symm,z.out⟩
 have be:¬(5:Int)<(x.kids.length:Int):=by omega
 have P:Hid (Xv x=false\/x.kids.length=x.names.length):=by
  by_cases e:x.kids.length=x.names.length
  ·exact Or.inr e
  ·left;rw[L.out];simp[e]
 by_cases hn:0<x.names.length
 case neg =>
  have R:¬(0:Int)<(x.names.length:Int):=by omega
  have D:Hid (Xai x.names=true):=Xgp (fun j hj=>absurd hj (by omega))
  go_wp2_with fail
  go_loopw [4] (fun i wr=>i= .int .i64 0/\wr=w1) (fun _ _=>0)
  case atStart=>exact ⟨rfl,rfl⟩
  case round=>
    obtain ⟨rfl,rfl⟩:=hrel
    have c:=z
    by_cases q:x.names.length=x.kids.length
    case neg=>
     have V:((x.names.length:Int) !=(x.kids.length:Int))=true:=by rw[bne_iff_ne];omega
     have H:Hid (Xv x=false):=by
      rcases P.out with e|e
      ·exact e
      ·exact absurd e.symm q
     clear q
     go_wp2_with fail
     go_ret
     exact ⟨Xi H.out.symm,c.out⟩
    case pos=>
    have V:((x.names.length:Int) !=(x.kids.length:Int))=false:=by rw[q];simp
    have p:Hid (Xv x=(decide (x.name.toList= [])&&(decide (x.place=0)&&decide (x.cst.length=0)))):=by
     have h5:x.names.length<=5:=by omega
     rw[Hid,L.out,Qz,D.out]
     simp[q.symm,h5]
    clear q
    by_cases l:x.name.toList= []
    case neg=>
     have X:(x.name.toList != [])=true:=by simp[l]
     have F:(x.name.toList== [])=false:=by simp[l]
     have H:Hid (Xv x=false):=by rw[Hid,p.out];simp[l]
     clear l
     go_wp2_with fail
     go_ret
     exact ⟨Xi H.out.symm,c.out⟩
    case pos=>
    have X:(x.name.toList != [])=false:=by simp[l]
    have F:(x.name.toList== [])=true:=by simp[l]
    have E1:=Xa l
    clear l
    by_cases s:x.cst.length=0
    case neg=>
     have Y:((x.cst.length:Int)==0)=false:=by rw[beq_eq_false_iff_ne];omega
     have H:Hid (Xv x=false):=by rw[Hid,p.out];simp[s]
     clear s
     go_wp2_with fail
     go_ret
     exact ⟨Xi H.out.symm,c.out⟩
    case pos=>
    have Y:((x.cst.length:Int)==0)=true:=by rw[beq_iff_eq];omega
    by_cases e3:x.place=0
    case neg=>
     have Z:(x.place==0)=false:=by simp[e3]
     have H:Hid (Xv x=false):=by rw[Hid,p.out];simp[e3]
     clear s e3
     go_wp2_with fail
     go_ret
     exact ⟨Xi H.out.symm,c.out⟩
    case pos=>
    have Z:(x.place==0)=true:=by simp[e3]
    have H:Hid (Xv x=true):=by rw[Hid,p.out];simp[E1.out,s,e3]
    clear s e3
    go_wp2_with fail
    go_ret
    exact ⟨Xi H.out.symm,c.out⟩
 case pos=>
 have R:(0:Int)<(x.names.length:Int):=by omega
 go_wp2_with fail
 clear hn R
 go_loopw [4] (fun i wr=>∃k:Nat,k<=x.names.length/\i= .int .i64 k/\Hid (∀j,j<k->Q1 x.names j=true)/\Below (w.heap.size+1) w1 wr) (fun i _=>x.names.length-(intOf i).toNat)
 case atStart=>exact ⟨0,Nat.zero_le _,rfl,fun j hj=>absurd hj (by omega),Below.refl _ _⟩
 case round =>
  obtain ⟨k,bh,rfl,HR,d⟩:=hrel
  have f0:=(Xc (o:=0) d (Nat.lt_succ_self _)).trans d0
  have f1:=(Xc (o:=1) d (Nat.lt_succ_self _)).trans d1
  have f2:=(Xc (o:=2) d (Nat.lt_succ_self _)).trans d2
  have f3:=(Xc (o:=3) d (Nat.lt_succ_self _)).trans d3
  have f4:=(Xc (o:=4) d (Nat.lt_succ_self _)).trans d4
  have f5:=(Xc (o:=5) d (Nat.lt_succ_self _)).trans d5
  have c:Hid (Below w.heap.size w wr):=z.out.trans (d.mono (by omega))
  by_cases hlt:k<x.names.length
  ·obtain ⟨b,o,rfl,bo,J⟩:=ba.out (by omega)
   have bp:wr.cell? ⟨b,o+k,none⟩=some (.string (Xf x.names k)):=(Xc (o:=o+k) c.out (by omega)).trans (J k hlt)
   have hs:=bb.out k hlt
   have S:Hid (Q1 x.names k=false->Xv x=false):=fun e=>by
    rw[L.out,Qz,Xez hlt e]
    simp
   have T:Hid (Q1 x.names k=true->∀j,j<k+1->Q1 x.names j=true):=fun e j hj=>by
    by_cases g:j=k
    ·subst g;exact e
    ·exact HR.out j (by omega)
   by_cases ht:Y1 (Xf x.names k)=true
   ·by_cases h0:k=0
    ·have G:=Xa (T.out (by unfold Q1;rw[ht];simp[h0]))
     have hd:decide ((0:Int)<(k:Int))=false:=by simp;omega
     have bf:decide (0<k)=false:=by simp;omega
     have HX:Hid (k=0):=h0
     clear J h0
     go_wp2_with fail
     go_quiet ((go_at_call 126;exact Calls.quiet_of_same (Uw _ _ hs)))
     go_wp2_with fail
     go_roundw
     case rel=>exact ⟨k+1,by omega,by go_num,G,below_drewN d nq⟩
     case measure=>simp[intOf];omega
    ·have bi:(0:Int)<(k:Int):=by omega
     have bq:wr.cell? ⟨b,o+(k-1),none⟩=some (.string (Xf x.names (k-1))):=(Xc (o:=o+(k-1)) c.out (by omega)).trans (J (k-1) (by omega))
     have br:decide ((0:Int)<(k:Int))=true:=by simp;omega
     have bf:decide (0<k)=true:=by simp;omega
     have bs:0<k:=by omega
     have pw:IntKind.i64.wrap ((k:Int)-1)=(k:Int)-1:=by rw[IntKind.wrap_i64];omega
     have V:((k:Int)-1).toNat=k-1:=by omega
     have X:0<=(k:Int)-1:=by omega
     have Y:(k:Int)-1<(x.names.length:Int):=by omega
     have Z:(1:Int)<=(k:Int):=by omega
     have p4:1<=k:=by omega
     have p5:(k:Int)<(x.names.length:Int)+1:=by omega
     have p6:(k:Int)<=(x.names.length:Int):=by omega
     have p7:k<=x.names.length:=by omega
     have p8:k<x.names.length+1:=by omega
     by_cases hl:Op.bytesLess (Xf x.names (k-1)).toList (Xf x.names k).toList=true
     ·have G:=Xa (T.out (by unfold Q1;rw[ht];simp[Y2,hl]))
      clear J
      go_wp2_with fail
      go_quiet ((go_at_call 126;exact Calls.quiet_of_same (Uw _ _ hs)))
      go_wp2_with fail
      go_roundw
      case rel=>exact ⟨k+1,by omega,by go_num,G,below_drewN d nq⟩
      case measure=>simp[intOf];omega
     ·have H:=Xa (S.out (by unfold Q1;rw[ht];simp[Y2,hl];omega))
      have bt:Op.bytesLess (Xf x.names (k-1)).toList (Xf x.names k).toList=false:=by simpa using hl
      clear J hl
      go_wp2_with fail
      go_quiet ((go_at_call 126;exact Calls.quiet_of_same (Uw _ _ hs)))
      go_wp2_with fail
      go_ret
      exact ⟨Xi H.out.symm,below_drewN c.out nq⟩
   ·have bg:Y1 (Xf x.names k)=false:=by simpa using ht
    have H:=Xa (S.out (by unfold Q1;rw[bg,Bool.false_and]))
    clear J ht
    go_wp2_with fail
    go_quiet ((go_at_call 126;exact Calls.quiet_of_same (Uw _ _ hs)))
    go_wp2_with fail
    go_ret
    exact ⟨Xi H.out.symm,below_drewN c.out nq⟩
  ·obtain rfl:k=x.names.length:=by omega
   have D:=Xa (Xgp HR.out)
   by_cases q:x.names.length=x.kids.length
   case neg=>
    have V:((x.names.length:Int) !=(x.kids.length:Int))=true:=by rw[bne_iff_ne];omega
    have H:Hid (Xv x=false):=by
     rcases P.out with e|e
     ·exact e
     ·exact absurd e.symm q
    clear q
    go_wp2_with fail
    go_ret
    exact ⟨Xi H.out.symm,c.out⟩
   case pos=>
   have V:((x.names.length:Int) !=(x.kids.length:Int))=false:=by rw[q];simp
   have p:Hid (Xv x=(decide (x.name.toList= [])&&(decide (x.place=0)&&decide (x.cst.length=0)))):=by
    have h5:x.names.length<=5:=by omega
    rw[Hid,L.out,Qz,D.out]
    simp[q.symm,h5]
   clear q
   by_cases l:x.name.toList= []
   case neg=>
    have X:(x.name.toList != [])=true:=by simp[l]
    have F:(x.name.toList== [])=false:=by simp[l]
    have H:Hid (Xv x=false):=by rw[Hid,p.out];simp[l]
    clear l
    go_wp2_with fail
    go_ret
    exact ⟨Xi H.out.symm,c.out⟩
   case pos=>
   have X:(x.name.toList != [])=false:=by simp[l]
   have F:(x.name.toList== [])=true:=by simp[l]
   have E1:=Xa l
   clear l
   by_cases s:x.cst.length=0
   case neg=>
    have Y:((x.cst.length:Int)==0)=false:=by rw[beq_eq_false_iff_ne];omega
    have H:Hid (Xv x=false):=by rw[Hid,p.out];simp[s]
    clear s
    go_wp2_with fail
    go_ret
    exact ⟨Xi H.out.symm,c.out⟩
   case pos=>
   have Y:((x.cst.length:Int)==0)=true:=by rw[beq_iff_eq];omega
   by_cases e3:x.place=0
   case neg=>
    have Z:(x.place==0)=false:=by simp[e3]
    have H:Hid (Xv x=false):=by rw[Hid,p.out];simp[e3]
    clear s e3
    go_wp2_with fail
    go_ret
    exact ⟨Xi H.out.symm,c.out⟩
   case pos=>
   have Z:(x.place==0)=true:=by simp[e3]
   have H:Hid (Xv x=true):=by rw[Hid,p.out];simp[E1.out,s,e3]
   clear s e3
   go_wp2_with fail
   go_ret
   exact ⟨Xi H.out.symm,c.out⟩
theorem Xo3 (B:Nat) (x:FN) (kc kn ki:Value) (w:World) (h:FNodeIn B w x kc kn ki) (hB:B<=w.heap.size):
  Calls Tryz.prog 66 #[.agg #[.int .i64 x.kind, .string x.name, .int .i64 x.place,kc,kn,ki]] w fun e w'=>e= .returned (.bool (Xv x))/\Below w.heap.size w w':=by
 by_cases h9:x.kind=9
 ·exact Xup B x kc kn ki w h hB h9
 ·exact Xuo B x kc kn ki w h hB h9


theorem Xun (B:Nat) (v:Value) (vs:List FN) (N:Nat):∀(n:Nat) (w:World),n<N->n<vs.length->FNodesAt B w v vs->
  Calls Tryz.prog 67 #[v, .int .i64 n] w fun e w'=>e= .returned (.tuple #[.int .i64 (trF (tr (Qx vs) n)), .int .i64 (trD (tr (Qx vs) n))])/\w'=w:=by
 induction N with
 |zero=>intro n w h;omega
 |succ N ih =>
  intro n w hN V J
  have X:Hid (FNodesAt B w v vs):=J
  have Y:=Xa ih
  clear ih
  obtain ⟨L,a,Z,rfl,g⟩:=J
  obtain ⟨b0,o0,rfl,ba,M⟩:=g (by omega)
  obtain ⟨kc,ka,ki,c⟩:=M n V
  have bb:=c.c5
  obtain ⟨bc,bd,ak,ck,rfl,s⟩:=c.inn.kids
  clear g M c
  have o:Hid (Qx vs n=(Xo vs n).kids):=Xa rfl
  generalize (Xo vs n).kids=kids at *
  generalize Qx vs=K at *
  go_enter Tryz.func67,Tryz.ntmps67
  go_wp2_with fail
  go_loopw [6,7,8] (fun t d i wr=>∃(r b h:Nat) (z:Int),r<=kids.length/\i= .int .i64 z/\z=(r:Int)-1/\t= .int .i64 ((b:Int)-1)/\d= .int .i64 h/\b<=n/\h<=n/\Hid (K5 (tr K) kids n r=some (b,h))/\wr=w) (fun _ _ i _=>(intOf i+1).toNat)
  case atStart=>exact ⟨kids.length,n,0,_,Nat.le_refl _,rfl,rfl,rfl,rfl,Nat.le_refl _,Nat.zero_le _,Xmp _ _ _,rfl⟩
  case round =>
   obtain ⟨r,b,h,z,hr,rfl,P,rfl,rfl,be,bf,R,rfl⟩:=hrel
   by_cases hr0:r=0
   ·obtain rfl:z= -1:=by omega
    have j:Hid (tr K n=some (b,h+1)):=Xmq (by rw[o.out,<-hr0];exact R.out)
    clear P
    go_wp2_with fail
    go_ret2
    exact ⟨Vq (by rw[j.out];simp[trF]) (by rw[j.out];simp[trD]),rfl⟩
   ·obtain ⟨q,rfl⟩:∃q,r=q+1:=⟨r-1,by omega⟩
    obtain rfl:z=(q:Int):=by omega
    obtain ⟨b1,o1,rfl,bg,l⟩:=s (by omega)
    have bh:=l q (by omega)
    have C:q<kids.length:=by omega
    have D:Hid (K5 (tr K) kids n q=Xy (tr K) (some (b,h)) (Xj kids q)):=by
     have:=Xei (tr K) kids n q C
     rw[R.out] at this
     exact this
    clear P s l hr0
    by_cases hb:b=0
    ·have j:Hid (tr K n=none):=V7 (r:=q) (by rw[o.out];omega) (by rw[o.out,D.out];simp[Xy,hb])
     have y:(b:Int)-1<0:=by omega
     go_wp2_with fail
     go_ret2
     exact ⟨Vq (by rw[j.out];rfl) (by rw[j.out];rfl),rfl⟩
    ·obtain ⟨m,rfl⟩:∃m,b=m+1:=⟨b-1,by omega⟩
     have f:(((m+1:Nat):Int)-1)=(m:Int):=by omega
     rw[f]
     have HC:Hid ((((m+1:Nat):Int)-1)=(m:Int)):=f
     clear f
     have y:¬(m:Int)<0:=by omega
     by_cases hkid:Xj kids q=(m:Int)
     ·have F:(Xj kids q !=(m:Int))=false:=by simp[hkid]
      have S:Hid (K5 (tr K) kids n q=(tr K m).map (fun p=>(p.1,max h p.2))):=by
       refine D.out.trans ?_
       simp[Xy,hkid]
      clear hkid
      go_wp2_with fail
      refine (Y.out m _ (by omega) (by omega) X.out).mono ?_
      rintro e w' ⟨rfl,rfl⟩
      cases htr:tr K m with
      |none=>
       have j:Hid (tr K n=none):=V7 (r:=q) (by rw[o.out];omega) (by rw[o.out,S.out,htr];rfl)
       have h1:trF none<0:=by decide
       simp only[trF,trD]
       go_wp2_with fail
       go_ret2
       exact ⟨Vq (by rw[j.out];rfl) (by rw[j.out];rfl),rfl⟩
      |some p=>
       obtain ⟨G,T⟩:=p
       have hd:=Xj1 m _ htr
       have HY:Hid (K5 (tr K) kids n q=some (G,max h T)):=S.out.trans (by rw[htr];rfl)
       simp only[trF,trD]
       simp only at hd
       have h0:¬(G:Int)<0:=by omega
       clear htr
       go_wp2_with fail
       go_roundw
       case rel=>exact ⟨q,G,max h T,_,by omega,rfl,rfl,rfl,by first|rw[Xvi]|(congr 1;omega),by omega,by omega,HY,by trivial⟩
       case measure=>simp[intOf]
     ·have F:(Xj kids q !=(m:Int))=true:=by simp[hkid]
      have j:Hid (tr K n=none):=V7 (r:=q) (by rw[o.out];omega) (by rw[o.out,D.out];simp[Xy,hkid])
      clear hkid
      go_wp2_with fail
      go_ret2
      exact ⟨Vq (by rw[j.out];rfl) (by rw[j.out];rfl),rfl⟩
theorem Xhi (B : Nat) (v : Value) (vs : List FN) (w : World) (h : FNodesAt B w v vs) (hB : B <= w.heap.size) :
  Calls Tryz.prog 32 #[v] w fun e w'=>e= .returned (.bool (okF vs))/\Below w.heap.size w w':=by
 have HV:Hid (FNodesAt B w v vs):=h
 obtain ⟨bb,a,bd,rfl,g⟩:=h
 by_cases h1:vs.length<1
 ·have l:Hid (okF vs=false):=Xdm (Or.inl h1)
  have D:(vs.length:Int)<1:=by omega
  go_enter Tryz.func32,Tryz.ntmps32
  go_wp2_with fail
  go_ret
  exact ⟨Xi l.out.symm,Below.refl _ _⟩
 by_cases h2:40<vs.length
 ·have l:Hid (okF vs=false):=Xdm (Or.inr h2)
  have D:¬(vs.length:Int)<1:=by omega
  have T:(40:Int)<(vs.length:Int):=by omega
  go_enter Tryz.func32,Tryz.ntmps32
  go_wp2_with fail
  go_ret
  exact ⟨Xi l.out.symm,Below.refl _ _⟩
 have D:¬(vs.length:Int)<1:=by omega
 have T:¬(40:Int)<(vs.length:Int):=by omega
 obtain ⟨b0,o0,rfl,V,P⟩:=g (by omega)
 clear g
 go_enter Tryz.func32,Tryz.ntmps32
 go_wp2_with fail
 go_loopw [3] (fun i wr=>∃k:Nat,k<=vs.length/\i= .int .i64 k/\(∀j,j<k->Xv (Xo vs j)=true/\Jw vs j=true)/\Below w.heap.size w wr) (fun i _=>vs.length-(intOf i).toNat)
 case atStart=>exact ⟨0,Nat.zero_le _,rfl,fun j hj=>by omega,Below.refl _ _⟩
 case round =>
  obtain ⟨k,hk,rfl,s,b⟩:=hrel
  have HA:=Xa s
  clear s
  by_cases hlt:k<vs.length
  ·obtain ⟨kc,ka,ki,F⟩:=P k hlt
   have d:=F.below (b.mono hB) V
   have c0:=d.c0
   have c1:=d.c1
   have c2:=d.c2
   have c3:=d.c3
   have c4:=d.c4
   have c5:=d.c5
   have G:=Xa d.inn
   have z:=b.size
   have HC:=Xa P
   clear P F d
   go_wp2_with fail
   refine (Xo3 B (Xo vs k) kc ka ki _ G.out (by omega)).mono ?_
   rintro e R ⟨rfl,C⟩
   have f:Below w.heap.size w R:=b.trans (C.mono z)
   have c:=(G.out.below (C.mono (by omega)))
   have d4:R.cell? ⟨b0,o0+k *6+5,none⟩=some ki:=(Xc C (by omega)).trans c5
   obtain ⟨be,bf,ak,ck,rfl,J⟩:=c.kids
   by_cases hnb:Xv (Xo vs k)=true
   ·have hN:=Xa hnb
    clear c
    go_wp2_with fail
    go_loopw [4] (fun i wr=>∃q:Nat,q<=(Xo vs k).kids.length/\i= .int .i64 q/\(∀j,j<q->inB (Xj (Xo vs k).kids j) 0 ((k:Int)-1)=true)/\wr=R) (fun i _=>(Xo vs k).kids.length-(intOf i).toNat)
    case atStart=>exact ⟨0,Nat.zero_le _,rfl,fun j hj=>by omega,rfl⟩
    case round=>
     obtain ⟨q,hq,rfl,t,rfl⟩:=hrel
     have HI:=Xa t
     clear t
     by_cases hlq:q<(Xo vs k).kids.length
     ·obtain ⟨b1,o1,rfl,bc,y⟩:=J (by omega)
      have bg:=y q hlq
      clear y J
      go_wp2_with fail
      refine (Vx _ _ _ _).mono ?_
      rintro e w2 ⟨rfl,rfl⟩
      by_cases hib:inB (Xj (Xo vs k).kids q) 0 ((k:Int)-1)=true
      ·have X:Hid (∀j,j<q+1->inB (Xj (Xo vs k).kids j) 0 ((k:Int)-1)=true):=fun j hj=>by
        by_cases e:j=q
        ·subst e;exact hib
        ·exact HI.out j (by omega)
       go_wp2_with fail
       go_roundw
       case rel=>exact ⟨q+1,by omega,by go_num,X.out,by trivial⟩
       case measure=>simp[intOf];omega
      ·have L:inB (Xj (Xo vs k).kids q) 0 ((k:Int)-1)=false:=by simpa using hib
       have l:Hid (okF vs=false):=X2w hlt hlq L
       clear hib
       go_wp2_with fail
       go_ret
       exact ⟨Xi l.out.symm,f⟩
     ·obtain rfl:q=(Xo vs k).kids.length:=by omega
      have Y:Hid (∀j,j<k+1->Xv (Xo vs j)=true/\Jw vs j=true):=fun j hj=>by
       by_cases e:j=k
       ·subst e;exact ⟨hN.out,Xtu HI.out⟩
       ·exact HA.out j (by omega)
      go_wp2_with fail
      go_roundw
      case rel=>exact ⟨k+1,by omega,by go_num,Y.out,f⟩
      case measure=>simp[intOf];omega
   ·have M:Xv (Xo vs k)=false:=by simpa using hnb
    have l:Hid (okF vs=false):=Xdn hlt M
    clear hnb c
    go_wp2_with fail
    go_ret
    exact ⟨Xi l.out.symm,f⟩
  ·obtain rfl:k=vs.length:=by omega
   have l:Hid (okF vs=Ga (Qx vs) vs.length 12):=X4c (by omega) (by omega) HA.out
   obtain ⟨n,F⟩:∃n,vs.length=n+1:=⟨vs.length-1,by omega⟩
   have Z:((vs.length:Int)-1)=(n:Int):=by omega
   have ba:=Xa (HV.out.below (b.mono hB))
   have HN:=Xa F
   have HR:Hid (Ga (Qx vs) vs.length 12=match tr (Qx vs) n with
    |some p=>decide (p.1=0)&&decide ((p.2:Int)<=12)
    |none=>false):=by
    unfold Ga Hid
    rw[show vs.length-1=n by omega]
    rfl
   clear P F
   go_wp2_with fail
   refine (Xun B _ vs (n+1) n _ (by omega) (by have:=HN.out;omega) ba.out).mono ?_
   rintro e R ⟨rfl,rfl⟩
   cases htr:tr (Qx vs) n with
   |none=>
    have o:Hid (Ga (Qx vs) vs.length 12=false):=by rw[Hid,HR.out,htr]
    simp only[trF,trD]
    clear htr
    go_wp2_with fail
    go_ret
    exact ⟨Xi (by rw[l.out,o.out]),b⟩
   |some p=>
    obtain ⟨S,p2⟩:=p
    have o:Hid (Ga (Qx vs) vs.length 12=(decide (S=0)&&decide ((p2:Int)<=12))):=by rw[Hid,HR.out,htr]
    simp only[trF,trD]
    clear htr
    by_cases hp:S=0
    ·have hq:((S:Int)==0)=true:=by simp[hp]
     have HP:=Xa hp
     clear hp
     go_wp2_with fail
     go_ret
     exact ⟨Xi (by rw[l.out,o.out];simp[HP.out]),b⟩
    ·have hq:((S:Int)==0)=false:=by simp[hp]
     have HP:=Xa hp
     clear hp
     go_wp2_with fail
     go_ret
     exact ⟨Xi (by rw[l.out,o.out];simp[HP.out]),b⟩
end Go.Proofs.YtdjddneidbddpaaGreatDoor
