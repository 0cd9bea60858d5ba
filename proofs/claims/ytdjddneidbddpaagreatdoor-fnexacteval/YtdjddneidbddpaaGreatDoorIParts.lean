import Derived.Test.YtdjddneidbddpaaGreatDoorImp1
import Derived.Test.YtdjddneidbddpaaGreatDoorImp2
import Derived.Test.YtdjddneidbddpaaGreatDoorSSort
import Derived.Test.YtdjddneidbddpaaGreatDoorIMinA
import Derived.Test.YtdjddneidbddpaaGreatDoorEq
namespace Go.Proofs.YtdjddneidbddpaaGreatDoor
set_option linter.unusedSectionVars false
set_option maxRecDepth 100000
set_option maxHeartbeats 3200000
open Go.RowKit
set_option linter.unusedSimpArgs false
set_option linter.unusedVariables false
theorem Xxr:(Tryz.prog.info? 73).map (fun i=>(i.zero,i.size,i.bytes))=some (some (.slice none 0 0),1,24):=by kernel_rfl
def Vo (KV:Nat->Value) (k j:Nat):Value:=if j<k then KV j else .slice none 0 0
theorem Xip {w:World} {b t n k:Nat} {KV:Nat->Value} {v:Value} (h:w.rowIs b t n (Vo KV k)):(w.setCell ⟨b,k,none⟩ v).rowIs b t n (Vo (fun j=>if j=k then v else KV j) (k+1)):=by
 refine (h.set k _).congr fun i _=> ?_
 unfold Vo
 by_cases e:i=k
 ·subst e;rw[if_pos rfl,if_pos (by omega)];simp
 ·rw[if_neg e];by_cases g:i<k
  ·rw[if_pos g,if_pos (by omega)];simp[e]
  ·rw[if_neg g,if_neg (by omega)]
theorem X1f {vs:List VN} (h1:1<=vs.length) (h2:vs.length<=80) (h:∀k,k<vs.length->Xz (Xb vs k)=true):Xe4 vs=Kb (Yc vs) vs.length 8:=by
 unfold Xe4
 rw[show ((List.range vs.length).all fun i=>Xz (Xb vs i))=true from ?_]
 ·rw[show Gz vs=true by simp[Gz,h1,h2],Bool.true_and,Bool.true_and,Kb]
  have b:Jo vs=Ga (Yc vs) vs.length 8:=by
   unfold Jo Ga
   cases tr (Yc vs) (vs.length-1) with
   |none=>rfl
   |some p=>
    have:((p.2:Int)<=8)↔p.2<=8:=by omega
    simp only[this]
  rw[b]
 ·rw[List.all_eq_true]
  exact fun k hk=>h k (List.mem_range.1 hk)
theorem U8 (B:Nat) (v:Value) (vs:List VN) (w:World) (h:NodesAt B w v vs) (hB:B<=w.heap.size):
  Calls Tryz.prog 10 #[v] w fun e w'=>e= .returned (.bool (okB vs))/\Below w.heap.size w w':=by
 have HE:Hid (Xe4 vs=okB vs):=Xil vs
 obtain ⟨bm,a,bn,rfl,l⟩:=h
 by_cases h1:vs.length<1
 ·have z:Hid (okB vs=false):=Xc5 (Or.inl h1)
  have M:(vs.length:Int)<1:=by omega
  go_enter Tryz.func10,Tryz.ntmps10
  go_wp2_with fail
  go_ret
  exact ⟨Xi z.out.symm,Below.refl _ _⟩
 by_cases h2:80<vs.length
 ·have z:Hid (okB vs=false):=Xc5 (Or.inr h2)
  have M:¬(vs.length:Int)<1:=by omega
  have bb:(80:Int)<(vs.length:Int):=by omega
  go_enter Tryz.func10,Tryz.ntmps10
  go_wp2_with fail
  go_ret
  exact ⟨Xi z.out.symm,Below.refl _ _⟩
 have M:¬(vs.length:Int)<1:=by omega
 have bb:¬(80:Int)<(vs.length:Int):=by omega
 obtain ⟨b0,o0,rfl,bc,hc⟩:=l (by omega)
 clear l
 have bd:=run_make_row' (P:=Tryz.prog) 71 73 (.slice none 0 0) 24 Tryz.underlying71 Xxr rfl .i64 .i64 vs.length (by omega) (by omega)
 go_enter Tryz.func10,Tryz.ntmps10
 go_wp2_with fail
 clear bd
 have R:(w.alloc (.cells (madeCells #[Value.slice none 0 0] vs.length) 73)).rowIs w.heap.size 73 vs.length (Vo (fun _=>undef) 0):=(World.rowIs_made w _ _ _).congr fun i _=>by simp[Vo]
 have S:Below w.heap.size w (w.alloc (.cells (madeCells #[Value.slice none 0 0] vs.length) 73)):=(Below.refl _ _).alloc (Nat.le_refl _) _
 go_loopw [19] (fun i wr=>∃(k:Nat) (L:Nat->Value),k<=vs.length/\i= .int .i64 k/\wr.rowIs w.heap.size 73 vs.length (Vo L k)/\(∀j,j<k->Xz (Xb vs j)=true/\IntsAt B w (L j) (Yc vs j))/\Below w.heap.size w wr) (fun i _=>vs.length-(intOf i).toNat)
 case atStart=>exact ⟨0,_,Nat.zero_le _,rfl,R,fun j hj=>by omega,S⟩
 case round =>
  obtain ⟨k,L,hk,rfl,b,C,g⟩:=hrel
  have HA:=Xa C
  have HC:=Xa hc
  clear C R S hc
  by_cases hlt:k<vs.length
  ·obtain ⟨ka,ki,hn⟩:=HC.out k hlt
   have c:=hn.below (g.mono hB) bc
   have c0:=c.c0
   have c1:=c.c1
   have c2:=c.c2
   have c3:=c.c3
   have c4:=c.c4
   have be:=Xa c.inn
   have T:=Xa hn.inn.kids
   have F:=g.size
   have V:=b.lt
   obtain ⟨_,_,aK,cK,eK,_⟩:=c.inn.keys
   obtain ⟨_,_,G,J,eI,_⟩:=c.inn.kids
   subst eK eI
   have HR:=Xa b
   clear hn c b
   have X:Below w.heap.size w (wr.alloc (.cells #[.int .i64 (Xb vs k).kind, .int .i64 (Xb vs k).n, .string (Xb vs k).s, .slice aK (Xb vs k).keys.length cK, .slice G (Xb vs k).kids.length J] 75)):=g.alloc F _
   have bf:Below wr.heap.size wr (wr.alloc (.cells #[.int .i64 (Xb vs k).kind, .int .i64 (Xb vs k).n, .string (Xb vs k).s, .slice aK (Xb vs k).keys.length cK, .slice G (Xb vs k).kids.length J] 75)):=(Below.refl _ _).alloc (Nat.le_refl _) _
   have q:=Xa (be.out.below (bf.mono (by omega)))
   by_cases hu:Yr (Xb vs k)=true
   ·go_wp2_with fail
    refine (Xb4 B (Xb vs k) _ _ _ q.out).mono ?_
    rintro e Y ⟨rfl,d⟩
    have bg:∀o,Y.cell? ⟨wr.heap.size,o,none⟩=(wr.alloc (.cells #[.int .i64 (Xb vs k).kind, .int .i64 (Xb vs k).n, .string (Xb vs k).s, .slice aK (Xb vs k).keys.length cK, .slice G (Xb vs k).kids.length J] 75)).cell? ⟨wr.heap.size,o,none⟩:=fun o=>d.cell (p:=⟨wr.heap.size,o,none⟩) (by simp)
    have bh:=d.size
    simp only[World.size_alloc] at bh
    have D:Below w.heap.size w Y:=X.trans (d.mono (by simp;omega))
    have t:=Xa (q.out.below (d.mono (by simp;omega)))
    by_cases hm:Zi (Xb vs k)=true
    ·have HN:Hid (Xz (Xb vs k)=true):=by rw[Hid,Xz,hu,hm];rfl
     go_wp2_with fail
     refine (Xgk B (Xb vs k) _ _ _ t.out (by omega)).mono ?_
     rintro e w2 ⟨rfl,y⟩
     have bo:∀o,w2.cell? ⟨wr.heap.size,o,none⟩=(wr.alloc (.cells #[.int .i64 (Xb vs k).kind, .int .i64 (Xb vs k).n, .string (Xb vs k).s, .slice aK (Xb vs k).keys.length cK, .slice G (Xb vs k).kids.length J] 75)).cell? ⟨wr.heap.size,o,none⟩:=fun o=>(y.cell (p:=⟨wr.heap.size,o,none⟩) (by show wr.heap.size<Y.heap.size;omega)).trans (bg o)
     have Z:Below w.heap.size w w2:=D.trans (y.mono (by omega))
     have f:w2.rowIs w.heap.size 73 vs.length (Vo L k):=Y4 (Y4 (HR.out.alloc _) d (by simp;omega)) y (by omega)
     have bp:=f.cell hlt
     have bq:=f.frozen k
     have ba:=Xa (Xip (v:= .slice G (Xb vs k).kids.length J) f)
     have bi:=Xa (Z.setCell (p:=⟨w.heap.size,k,none⟩) (Nat.le_refl _) (.slice G (Xb vs k).kids.length J))
     have bj:Hid (∀j,j<k+1->Xz (Xb vs j)=true/\IntsAt B w (if j=k then .slice G (Xb vs k).kids.length J else L j) (Yc vs j)):=fun j hj=>by
      by_cases e:j=k
      ·subst e;rw[if_pos rfl];exact ⟨HN.out,T.out⟩
      ·rw[if_neg e];exact HA.out j (by omega)
     clear f
     go_wp2_with fail
     go_roundw
     case rel=>exact ⟨k+1,_,by omega,by go_num,ba.out,bj.out,bi.out⟩
     case measure=>simp[intOf];omega
    ·have bk:Zi (Xb vs k)=false:=by simpa using hm
     have z:Hid (okB vs=false):=Xg4 hlt (by rw[Xz,bk,Bool.and_false])
     clear hm
     go_wp2_with fail
     refine (Xgk B (Xb vs k) _ _ _ t.out (by omega)).mono ?_
     rintro e w2 ⟨rfl,y⟩
     go_wp2_with fail
     go_ret
     exact ⟨Xi z.out.symm,D.trans (y.mono (by omega))⟩
   ·have bl:Yr (Xb vs k)=false:=by simpa using hu
    have z:Hid (okB vs=false):=Xg4 hlt (by rw[Xz,bl,Bool.false_and])
    clear hu
    go_wp2_with fail
    refine (Xb4 B (Xb vs k) _ _ _ q.out).mono ?_
    rintro e Y ⟨rfl,d⟩
    go_wp2_with fail
    go_ret
    exact ⟨Xi z.out.symm,X.trans (d.mono (by simp;omega))⟩
  ·obtain rfl:k=vs.length:=by omega
   have z:Hid (okB vs=Kb (Yc vs) vs.length 8):=HE.out.symm.trans (X1f (by omega) (by omega) (fun j hj=>(HA.out j hj).1))
   have V:=b.lt
   have HR:=Xa b
   clear b
   go_wp2_with fail
   refine (Xc0 8 (w.heap.size+1) w.heap.size vs.length (Yc vs) L _ (by omega) (by omega) (by omega) (by omega) (fun i hi=>⟨?_, ?_⟩)).mono ?_
   ·rw[HR.out.cell hi,Vo,if_pos hi]
   ·exact ((HA.out i hi).2.below (g.mono hB)).wide (by omega)
   ·rintro e Y ⟨rfl,d⟩
    go_wp2_with fail
    go_ret
    exact ⟨Xi z.out.symm,g.trans (d.mono (by omega))⟩


theorem Xu5 (B:Nat) (v:Value) (vs:List VN) (w:World) (h:NodesAt B w v vs) (hB:B<=w.heap.size) (hno:okB vs=false):
  Calls Tryz.prog 27 #[v] w fun e w'=>e= .returned (.tuple #[.nilIface, .bool false])/\Below w.heap.size w w':=by
 have c:=Xa h
 obtain ⟨_,a,d,rfl,_⟩:=h
 go_enter Tryz.func27,Tryz.ntmps27
 go_wp2_with fail
 refine (U8 B _ vs _ c.out hB).mono ?_
 rintro e f ⟨rfl,b⟩
 go_wp2_with fail
 go_ret2
 exact ⟨rfl,b⟩
theorem Xrq (B:Nat) (v:Value) (vs:List VN) (w:World) (h:NodesAt B w v vs) (hB:B<=w.heap.size) (hyes:okB vs=true):
  Calls Tryz.prog 27 #[v] w fun e w'=>∃lo t x,e= .returned (.tuple #[.iface t x, .bool true])/\w.heap.size<=lo/\lo<w'.heap.size/\ValIs lo w'.heap.size w' vs vs.length (vs.length-1) (.iface t x)/\Below w.heap.size w w':=by
 have D:=Xa h
 obtain ⟨_,a,G,rfl,_⟩:=h
 obtain ⟨⟨o,p⟩,g,_,j⟩:=Xm hyes
 have q:=Xa g
 have s:=Xa j
 clear g j
 go_enter Tryz.func27,Tryz.ntmps27
 go_wp2_with fail
 refine (U8 B _ vs _ D.out hB).mono ?_
 rintro e F ⟨rfl,f⟩
 have J:=f.size
 go_wp2_with fail
 refine (Xfj B _ vs _ (D.out.below (f.mono hB)) (by omega) o p q.out s.out).mono ?_
 rintro e L ⟨M,rfl,c,b,l⟩
 have P:=l.size
 obtain ⟨t,x,y⟩:=(b (vs.length-1) (by omega)).iface
 have R:L.cell? ⟨F.heap.size,vs.length-1,none⟩=some (.iface t x):=by rw[c.cell (by omega),y]
 have z:=c.lt
 have d:=b (vs.length-1) (by omega)
 rw[y] at d
 have C:=Xa d
 have S:((vs.length:Int)-1).toNat=vs.length-1:=by omega
 clear c b y d
 go_wp2_with fail
 go_ret2
 exact ⟨F.heap.size,t,x,rfl,by omega,z,ValIs.more (by omega) C.out,f.trans (l.mono J)⟩


theorem TreeAt.iface {B:Nat} {w:World} {f:Nat} {t:VT} {v:Value} (h:TreeAt B w f t v):∃ty x,v= .iface ty x:=by
 cases f with
 |zero=>exact h.elim
 |succ f=>
  obtain ⟨b,n,s,keys,kids⟩:=t
  rcases h with ⟨_,_,_,_,_,rfl⟩|⟨_,_,_,_,rfl⟩|⟨_,_,_,_,rfl⟩|⟨_,_,_,_,rfl⟩|⟨_,_,_,_,it,rfl,_⟩|⟨_,_,_,ks,it,rfl,_⟩<;>exact ⟨_,_,rfl⟩
def Xf1 (ns:List VN):List VN:=if okB ns=true then ns else []
theorem Xcq (f:Nat) (t:VT) (x:Value) (ns:List VN) (w:World) (ht:TreeAt w.heap.size w f t x) (hns:Yb f t 0=ns) (hn:ns.length<=100000) (hf:∀i,i<ns.length->Fits (Xb ns i)):
  Calls Tryz.prog 173 #[x] w fun e w'=>∃r base KV IV,e= .returned (.tuple #[r, .bool (okB ns)])/\w.heap.size<=base/\base<=w'.heap.size/\Nest base w' r (Xf1 ns) KV IV/\Below w.heap.size w w':=by
 obtain ⟨C,D,rfl⟩:=ht.iface
 have F:=Xa ht
 have j:=Xa hns
 have G:=Xa hf
 have l:Hid (Xf1 ns=if okB ns=true then ns else []):=rfl
 clear ht hns hf
 go_enter Tryz.func173,Tryz.ntmps173
 go_wp2_with fail
 refine (Xed w.heap.size w.heap.size (Nat.le_refl _) f t (.iface C D) (.slice none 0 0) [] (fun _=>undef) (fun _=>undef) w (Nest.nil _ _ _ _) F.out (Nat.le_refl _) (by rw[List.length_nil,j.out];omega)).mono ?_
 rintro e q ⟨r,K,I,rfl,c⟩
 have d:Nest w.heap.size q r ns K I:=by have:=c.1;rw[List.nil_append,List.length_nil,j.out] at this;exact this
 have g:Below w.heap.size w q:=(Below.refl _ _).grown c.2.1 (Nat.le_refl _) (fun k hk=>by simp[Value.ownBlock] at hk)
 have J:=g.size
 have o:=Xa d
 have s:=Xa g
 obtain ⟨L,M,z⟩:=Xg d.row
 obtain ⟨N,B⟩:∃N,ns.length=N:=⟨_,rfl⟩
 rw[B] at z
 subst z
 clear d g B c
 go_wp2_with fail
 refine (U8 q.heap.size _ ns _ (o.out.nodes (by omega) G.out) (Nat.le_refl _)).mono ?_
 rintro e P ⟨rfl,b⟩
 have R:=b.size
 have y:=Xa (o.out.below b)
 have p:=Xa (s.out.trans (b.mono J))
 clear b
 cases ok1:okB ns
 ·go_wp2_with fail
  go_ret2
  exact ⟨.slice none 0 0,w.heap.size,fun _=>undef,fun _=>undef,by rw[ok1];rfl,Nat.le_refl _,by omega,by rw[l.out,ok1];exact Nest.nil _ _ _ _,p.out⟩
 ·go_wp2_with fail
  go_ret2
  exact ⟨.slice L N M,w.heap.size,K,I,by rw[ok1];rfl,Nat.le_refl _,by omega,by rw[l.out,ok1];exact y.out,p.out⟩


structure FN where
 kind:Int
 name:ByteArray
 place:Int
 cst:List VN
 names:List ByteArray
 kids:List Int
def FN.zero:FN:=⟨0,ByteArray.empty,0,[],[],[]⟩
def Xo (fs:List FN) (i:Nat):FN:=fs.getD i FN.zero
def Qx (fs:List FN) (i:Nat):List Int:=(Xo fs i).kids
def Jl (c:Nat):Bool:=(decide (97<=c)&&decide (c<=122))||((decide (65<=c)&&decide (c<=90))||decide (c=95))
def Vb (c:Nat):Bool:=decide (48<=c)&&decide (c<=57)
def Zc (s:ByteArray) (j:Nat):Nat:=(s.data.getD j 0).toNat
def Y1 (s:ByteArray):Bool:=decide (0<s.size)&&decide (s.size<=60)&&Jl (Zc s 0)&&(List.range s.size).all fun j=>Jl (Zc s j)||Vb (Zc s j)
theorem Uy {s:ByteArray} {j:Nat} (h:j<s.size):s[j].toNat=Zc s j:=by
 unfold Zc
 have b:j<s.data.size:=h
 rw[show s.data.getD j 0=s.data[j] by unfold Array.getD;exact dif_pos b]
 rfl
theorem Xtt {s:ByteArray} (h:Y1 s=true):Z4 s=true:=by
 unfold Y1 at h
 simp only[Bool.and_eq_true,decide_eq_true_eq,List.all_eq_true,List.mem_range] at h
 unfold Z4
 rw[Bool.and_eq_true,List.all_eq_true]
 refine ⟨by simp[h.1.1.2],fun c hc=> ?_⟩
 obtain ⟨j,d,rfl⟩:=List.getElem_of_mem hc
 have b:j<s.size:=by simpa using d
 have:=h.2 j b
 rw[<-Uy b] at this
 rw[decide_eq_true_eq]
 show s[j].toNat<=127
 unfold Jl Vb at this
 simp only[Bool.or_eq_true,Bool.and_eq_true,decide_eq_true_eq] at this
 omega
def Q1 (l:List ByteArray) (j:Nat):Bool:=Y1 (Xf l j)&&(decide (j=0)||Y2 (Xf l (j-1)) (Xf l j))
def Xai (l:List ByteArray):Bool:=(List.range l.length).all (Q1 l)
def Qz (l:List ByteArray):Bool:=decide (l.length<=5)&&Xai l
theorem Xwh (l:List ByteArray):Xai l=(((List.range l.length).all fun j=>Y1 (Xf l j))&&Qs l):=by
 rw[Bool.eq_iff_iff]
 unfold Xai Qs
 simp only[Bool.and_eq_true,List.all_eq_true,List.mem_range]
 constructor
 ·intro h
  refine ⟨fun j b=> ?_,fun j b=> ?_⟩
  ·have:=h j b
   unfold Q1 at this
   rw[Bool.and_eq_true] at this
   exact this.1
  ·have:=h j b
   unfold Q1 at this
   rw[Bool.and_eq_true] at this
   unfold Qd
   rw[Xtt this.1,Bool.true_and]
   exact this.2
 ·rintro ⟨c,d⟩ j b
  have:=d j b
  unfold Qd at this
  rw[Bool.and_eq_true] at this
  unfold Q1
  rw[c j b,Bool.true_and]
  exact this.2
theorem Xez {l:List ByteArray} {k:Nat} (hk:k<l.length) (h:Q1 l k=false):Xai l=false:=by
 unfold Xai
 rw[List.all_eq_false]
 exact ⟨k,List.mem_range.2 hk,by simp[h]⟩
theorem Xgp {l:List ByteArray} (h:∀j,j<l.length->Q1 l j=true):Xai l=true:=by
 unfold Xai
 rw[List.all_eq_true]
 exact fun j hj=>h j (List.mem_range.1 hj)
def Vn (v:List VN):Bool:=decide (v.length=1)&&okB v&&decide ((Xb v 0).kind≠5)&&decide ((Xb v 0).kind≠6)
def Uz (x:FN):Bool:=
 !(decide (x.kind≠2)&&decide (x.name.toList≠ []))&& !(decide (x.kind≠3)&&decide (x.place≠0))&&
 !(decide (x.kind≠5)&&decide (0<x.cst.length))&& !(decide (x.kind≠9)&&decide (0<x.names.length))
def J1 (x:FN):Bool:=
 if x.kind=2 then Y1 x.name
 else if x.kind=3 then decide (-80<=x.place)&&decide (x.place<=80)
 else if x.kind=5 then Vn x.cst
 else if x.kind=9 then Qz x.names
 else true
def kidsN (k:Int):Int:=
 if k=6\/k=7\/k=15\/k=16\/k=17\/k=18\/k=19\/k=20\/k=21 then 2
 else if k=10\/k=23 then 1
 else if k=22 then 3
 else if k=8\/k=9 then-1
 else 0
def Jm (x:FN):Bool:=
 if x.kind=8 then decide (x.kids.length<=1)
 else if x.kind=9 then decide (x.kids.length=x.names.length)
 else decide (1<=x.kind)&&decide (x.kind<=23)&&decide ((x.kids.length:Int)=kidsN x.kind)
def Xv (x:FN):Bool:=Uz x&&J1 x&&Jm x
def Jw (fs:List FN) (i:Nat):Bool:=(Qx fs i).all fun k=>decide (0<=k)&&decide (k<=(i:Int)-1)
def U0 (fs:List FN):Bool:=decide (1<=fs.length)&&decide (fs.length<=40)
def okF (fs:List FN):Bool:=U0 fs&&((List.range fs.length).all fun i=>Xv (Xo fs i)&&Jw fs i)&&Ga (Qx fs) fs.length 12
def Xnr (fs:List FN):Bool:=U0 fs&&((List.range fs.length).all fun i=>Xv (Xo fs i))&&Kb (Qx fs) fs.length 12
theorem X4b (fs:List FN):Xnr fs=okF fs:=by
 rw[Bool.eq_iff_iff]
 unfold Xnr okF Kb
 simp only[Bool.and_eq_true,List.all_eq_true,List.mem_range]
 constructor
 ·rintro ⟨⟨c,d⟩,b,f⟩
  refine ⟨⟨c,fun i hi=>⟨d i hi, ?_⟩⟩,f⟩
  obtain ⟨p,g⟩:=Option.isSome_iff_exists.1 (b i hi)
  unfold Jw
  simp only[List.all_eq_true,Bool.and_eq_true,decide_eq_true_eq]
  exact Xsh g
 ·rintro ⟨⟨c,d⟩,b⟩
  refine ⟨⟨c,fun i hi=>(d i hi).1⟩,fun i hi=> ?_,b⟩
  unfold Ga at b
  cases hr:tr (Qx fs) (fs.length-1) with
  |none=>rw[hr] at b;cases b
  |some p=>
   rw[hr] at b
   simp at b
   obtain ⟨q,j⟩:=Xj2 _ _ hr i (by omega) (by omega)
   rw[j]
   rfl
theorem Xdm {fs:List FN} (h:fs.length<1\/40<fs.length):okF fs=false:=by
 have:U0 fs=false:=by simp[U0];omega
 simp[okF,this]
theorem Xdn {fs:List FN} {k:Nat} (hk:k<fs.length) (h:Xv (Xo fs k)=false):okF fs=false:=by
 unfold okF
 rw[show ((List.range fs.length).all fun i=>Xv (Xo fs i)&&Jw fs i)=false from ?_,Bool.and_false,Bool.false_and]
 rw[List.all_eq_false]
 exact ⟨k,List.mem_range.2 hk,by simp[h]⟩
theorem X2w {fs:List FN} {k j:Nat} (hk:k<fs.length) (hj:j<(Xo fs k).kids.length) (h:inB (Xj (Xo fs k).kids j) 0 ((k:Int)-1)=false):okF fs=false:=by
 unfold okF
 rw[show ((List.range fs.length).all fun i=>Xv (Xo fs i)&&Jw fs i)=false from ?_,Bool.and_false,Bool.false_and]
 rw[List.all_eq_false]
 refine ⟨k,List.mem_range.2 hk, ?_⟩
 have:Jw fs k=false:=by
  unfold Jw
  rw[List.all_eq_false]
  refine ⟨Xj (Xo fs k).kids j, ?_,by simpa [inB] using h⟩
  unfold Qx
  rw[Y8 hj]
  exact List.getElem_mem _
 simp[this]
theorem Xtu {fs:List FN} {k:Nat} (h:∀j,j<(Xo fs k).kids.length->inB (Xj (Xo fs k).kids j) 0 ((k:Int)-1)=true):Jw fs k=true:=by
 unfold Jw
 rw[List.all_eq_true]
 intro x c
 obtain ⟨j,d,rfl⟩:=List.getElem_of_mem c
 have b:j<(Xo fs k).kids.length:=d
 have:=h j b
 rw[Y8 b] at this
 exact this
theorem X4c {fs:List FN} (h1:1<=fs.length) (h2:fs.length<=40) (h:∀k,k<fs.length->Xv (Xo fs k)=true/\Jw fs k=true):okF fs=Ga (Qx fs) fs.length 12:=by
 unfold okF
 rw[show ((List.range fs.length).all fun i=>Xv (Xo fs i)&&Jw fs i)=true from ?_]
 ·simp[U0,h1,h2]
 ·rw[List.all_eq_true]
  intro k b
  have:=h k (List.mem_range.1 b)
  simp[this.1,this.2]
theorem Xz2 {fs:List FN} (h1:1<=fs.length) (h2:fs.length<=40) (h:∀k,k<fs.length->Xv (Xo fs k)=true):Xnr fs=Kb (Qx fs) fs.length 12:=by
 unfold Xnr
 rw[show ((List.range fs.length).all fun i=>Xv (Xo fs i))=true from ?_]
 ·rw[show U0 fs=true by simp[U0,h1,h2],Bool.true_and,Bool.true_and]
 ·rw[List.all_eq_true]
  exact fun k hk=>h k (List.mem_range.1 hk)
structure FNodeIn (B:Nat) (w:World) (x:FN) (kc kn ki:Value):Prop where
 cst:NodesAt B w kc x.cst
 names:StrsAt B w kn x.names
 kids:IntsAt B w ki x.kids
 size:x.name.size<=140737488355328
 klo: -9223372036854775808<=x.kind
 khi:x.kind<=9223372036854775807
 nlo: -9223372036854775808<=x.place
 nhi:x.place<=9223372036854775807
structure FNodeAt (B:Nat) (w:World) (b o:Nat) (x:FN) (kc kn ki:Value):Prop where
 c0:w.cell? ⟨b,o,none⟩=some (.int .i64 x.kind)
 c1:w.cell? ⟨b,o+1,none⟩=some (.string x.name)
 c2:w.cell? ⟨b,o+2,none⟩=some (.int .i64 x.place)
 c3:w.cell? ⟨b,o+3,none⟩=some kc
 c4:w.cell? ⟨b,o+4,none⟩=some kn
 c5:w.cell? ⟨b,o+5,none⟩=some ki
 inn:FNodeIn B w x kc kn ki
def FNodesAt (B:Nat) (w:World) (v:Value) (fs:List FN):Prop:=
 fs.length<=1048576/\∃a cap,v= .slice a fs.length cap/\(0<fs.length->∃b o,a=some ⟨b,o,none⟩/\b<B/\∀i,i<fs.length->∃kc kn ki,FNodeAt B w b (o+i *6) (Xo fs i) kc kn ki)
theorem FNodeIn.below {B:Nat} {w w':World} {x:FN} {kc kn ki:Value} (h:FNodeIn B w x kc kn ki) (hb:Below B w w'):FNodeIn B w' x kc kn ki:=
 {h with cst:=h.cst.below hb,names:=h.names.below hb,kids:=h.kids.below hb}
theorem FNodeAt.below {B:Nat} {w w':World} {b o:Nat} {x:FN} {kc kn ki:Value} (h:FNodeAt B w b o x kc kn ki) (hb:Below B w w') (hB:b<B):FNodeAt B w' b o x kc kn ki:=
 ⟨(Xc hb hB).trans h.c0,(Xc hb hB).trans h.c1,(Xc hb hB).trans h.c2,(Xc hb hB).trans h.c3,(Xc hb hB).trans h.c4,(Xc hb hB).trans h.c5,h.inn.below hb⟩
theorem FNodesAt.below {B:Nat} {w w':World} {v:Value} {fs:List FN} (h:FNodesAt B w v fs) (hb:Below B w w'):FNodesAt B w' v fs:=by
 obtain ⟨f,a,d,e,g⟩:=h
 refine ⟨f,a,d,e,fun hl=> ?_⟩
 obtain ⟨b,o,j,c,l⟩:=g hl
 refine ⟨b,o,j,c,fun i hi=> ?_⟩
 obtain ⟨p,q,s,t⟩:=l i hi
 exact ⟨p,q,s,t.below hb c⟩
theorem FNodeIn.wide {B B':Nat} {w:World} {x:FN} {kc kn ki:Value} (h:FNodeIn B w x kc kn ki) (hb:B<=B'):FNodeIn B' w x kc kn ki:=
 {h with cst:=h.cst.wide hb,names:=h.names.wide hb,kids:=h.kids.wide hb}
theorem FNodesAt.wide {B B':Nat} {w:World} {v:Value} {fs:List FN} (h:FNodesAt B w v fs) (hb:B<=B'):FNodesAt B' w v fs:=by
 obtain ⟨f,a,d,e,g⟩:=h
 refine ⟨f,a,d,e,fun hl=> ?_⟩
 obtain ⟨b,o,j,l,p⟩:=g hl
 refine ⟨b,o,j,by omega,fun i hi=> ?_⟩
 obtain ⟨q,s,t,c⟩:=p i hi
 exact ⟨q,s,t,c.c0,c.c1,c.c2,c.c3,c.c4,c.c5,c.inn.wide hb⟩


theorem OwnAt.other {w:World} {b:Nat} {vs:List VN} {KB KI:Nat->Nat} (h:OwnAt w b vs KB KI) {c o:Nat} (hc:c<b) (v:Value):OwnAt (w.setCell ⟨c,o,none⟩ v) b vs KB KI:=
 ⟨h.row.setOther (Z7 (by omega)) _,⟨h.to.lo,fun i hi=>(h.to.rk i hi).setOther (Z7 (by have:=h.to.lo i hi;omega)) _,fun i hi=>(h.to.ri i hi).setOther (Z7 (by have:=h.to.lo i hi;omega)) _,h.to.mono⟩⟩
structure OwnF (w:World) (x:FN) (lo bc:Nat) (KB KI:Nat->Nat) (bk bi:Nat):Prop where
 lc:lo<=bc
 lk:lo<=bk
 li:lo<=bi
 own:OwnAt w bc x.cst KB KI
 rk:w.rowIs bk 9 x.names.length (fun j=> .string (Xf x.names j))
 ri:w.rowIs bi 2 x.kids.length (fun j=> .int .i64 (Xj x.kids j))
theorem OwnF.below {w w':World} {x:FN} {lo bc:Nat} {KB KI:Nat->Nat} {bk bi:Nat} (h:OwnF w x lo bc KB KI bk bi) (hb:Below w.heap.size w w'):OwnF w' x lo bc KB KI bk bi:=
 ⟨h.lc,h.lk,h.li,h.own.below hb,Y4 h.rk hb h.rk.lt,Y4 h.ri hb h.ri.lt⟩
theorem OwnF.other {w:World} {x:FN} {lo bc:Nat} {KB KI:Nat->Nat} {bk bi c o:Nat} (h:OwnF w x lo bc KB KI bk bi) (hc:c<lo) (v:Value):OwnF (w.setCell ⟨c,o,none⟩ v) x lo bc KB KI bk bi:=
 ⟨h.lc,h.lk,h.li,h.own.other (by have:=h.lc;omega) v,h.rk.setOther (Z7 (by have:=h.lk;omega)) _,h.ri.setOther (Z7 (by have:=h.li;omega)) _⟩
theorem OwnF.lower {w:World} {x:FN} {lo lo' bc:Nat} {KB KI:Nat->Nat} {bk bi:Nat} (h:OwnF w x lo bc KB KI bk bi) (hl:lo'<=lo):OwnF w x lo' bc KB KI bk bi:=
 ⟨by have:=h.lc;omega,by have:=h.lk;omega,by have:=h.li;omega,h.own,h.rk,h.ri⟩
def sl (b n:Nat):Value:= .slice (some ⟨b,0,none⟩) n n
theorem OwnF.inn {w:World} {x:FN} {lo bc:Nat} {KB KI:Nat->Nat} {bk bi:Nat} (h:OwnF w x lo bc KB KI bk bi) {B0:Nat} {w0:World} {kc kn ki:Value} (h0:FNodeIn B0 w0 x kc kn ki):FNodeIn w.heap.size w x (sl bc x.cst.length) (sl bk x.names.length) (sl bi x.kids.length):=
 ⟨h.own.nodes h0.cst.1 h0.cst.fits,Xr2 h.rk h0.names.1 h0.names.2.1 _ h.rk.lt,Xr3 h.ri h0.kids.1 h0.kids.2.1 _ h.ri.lt,h0.size,h0.klo,h0.khi,h0.nlo,h0.nhi⟩


def zeroFNode:Value:= .agg #[.int .i64 0, .string ByteArray.empty, .int .i64 0, .slice none 0 0, .slice none 0 0, .slice none 0 0]
theorem Xyg:(Tryz.prog.info? 84).map (fun i=>(i.zero,i.size,i.bytes))=some (some zeroFNode,6,104):=by kernel_rfl
def Vi (n:Nat):Array Value:=madeCells zeroFNode.cells (n *6)
theorem Xiy (n:Nat):(Vi n).size=n *6:=size_madeCells _ _
theorem Xiz (n:Nat) (hb:104 *n<=281474976710656) (w:World):
  (Instr.makeSlice 24 (.int .i64 (n:Int)) (.int .i64 (n:Int))).run Tryz.prog w= .ok (.slice (some ⟨w.heap.size,0,none⟩) n n) (w.alloc (.cells (Vi n) 84)):=by
 obtain ⟨i,f,b⟩:=Option.map_eq_some_iff.1 Xyg
 simp only[Prod.mk.injEq] at b
 obtain ⟨g,j,c⟩:=b
 have d:=run_make (P:=Tryz.prog) w 24 84 i zeroFNode Tryz.underlying24 f g .i64 .i64 n n (by omega) (Int.le_refl _) (by rw[c];omega) (by omega)
 simp only[Int.toNat_natCast,j] at d
 exact d
structure FBq where
 bc:Nat
 kb:Nat->Nat
 ki:Nat->Nat
 bk:Nat
 bi:Nat
def Jp (fs:List FN) (Q:Nat->FBq) (j:Nat):Value:=
 if j%6=0 then .int .i64 (Xo fs (j/6)).kind
 else if j%6=1 then .string (Xo fs (j/6)).name
 else if j%6=2 then .int .i64 (Xo fs (j/6)).place
 else if j%6=3 then .slice (some ⟨(Q (j/6)).bc,0,none⟩) (Xo fs (j/6)).cst.length (Xo fs (j/6)).cst.length
 else if j%6=4 then .slice (some ⟨(Q (j/6)).bk,0,none⟩) (Xo fs (j/6)).names.length (Xo fs (j/6)).names.length
 else .slice (some ⟨(Q (j/6)).bi,0,none⟩) (Xo fs (j/6)).kids.length (Xo fs (j/6)).kids.length
theorem Xyh (fs:List FN) (Q:Nat->FBq) (i:Nat):Jp fs Q (i *6)= .int .i64 (Xo fs i).kind:=by
 unfold Jp
 rw[if_pos (by omega),show i *6/6=i by omega]
theorem Xyi (fs:List FN) (Q:Nat->FBq) (i:Nat):Jp fs Q (i *6+1)= .string (Xo fs i).name:=by
 unfold Jp
 rw[if_neg (by omega),if_pos (by omega),show (i *6+1)/6=i by omega]
theorem Xyj (fs:List FN) (Q:Nat->FBq) (i:Nat):Jp fs Q (i *6+2)= .int .i64 (Xo fs i).place:=by
 unfold Jp
 rw[if_neg (by omega),if_neg (by omega),if_pos (by omega),show (i *6+2)/6=i by omega]
theorem Xpg (fs:List FN) (Q:Nat->FBq) (i:Nat):Jp fs Q (i *6+3)= .slice (some ⟨(Q i).bc,0,none⟩) (Xo fs i).cst.length (Xo fs i).cst.length:=by
 unfold Jp
 rw[if_neg (by omega),if_neg (by omega),if_neg (by omega),if_pos (by omega),show (i *6+3)/6=i by omega]
theorem Xph (fs:List FN) (Q:Nat->FBq) (i:Nat):Jp fs Q (i *6+4)= .slice (some ⟨(Q i).bk,0,none⟩) (Xo fs i).names.length (Xo fs i).names.length:=by
 unfold Jp
 rw[if_neg (by omega),if_neg (by omega),if_neg (by omega),if_neg (by omega),if_pos (by omega),show (i *6+4)/6=i by omega]
theorem Xpi (fs:List FN) (Q:Nat->FBq) (i:Nat):Jp fs Q (i *6+5)= .slice (some ⟨(Q i).bi,0,none⟩) (Xo fs i).kids.length (Xo fs i).kids.length:=by
 unfold Jp
 rw[if_neg (by omega),if_neg (by omega),if_neg (by omega),if_neg (by omega),if_neg (by omega),show (i *6+5)/6=i by omega]
def Jq (fs:List FN) (Q:Nat->FBq) (z:Nat->Value) (k j:Nat):Value:=if j<k *6 then Jp fs Q j else z j
def Xpj (Q:Nat->FBq) (k:Nat) (q:FBq) (i:Nat):FBq:=if i=k then q else Q i
theorem Xcd (Q:Nat->FBq) (k:Nat) (q:FBq):Xpj Q k q k=q:=if_pos rfl
theorem Xi0 (Q:Nat->FBq) {k i:Nat} (q:FBq) (h:i≠k):Xpj Q k q i=Q i:=if_neg h
theorem Xyk {fs:List FN} {Q:Nat->FBq} {k j:Nat} {q:FBq} (h:j<k *6):Jp fs (Xpj Q k q) j=Jp fs Q j:=by
 unfold Jp
 simp only[Xi0 Q q (show j/6≠k by omega)]
theorem Xu6 {w:World} {b t m k:Nat} {fs:List FN} {Q:Nat->FBq} {z:Nat->Value} (q:FBq) (h:w.rowIs b t m (Jq fs Q z k)):
  ((((((w.setCell ⟨b, k * 6, none⟩ (.int .i64 (Xo fs k).kind)).setCell ⟨b, k * 6 + 1, none⟩ (.string (Xo fs k).name)).setCell ⟨b, k * 6 + 2, none⟩ (.int .i64 (Xo fs k).place)).setCell ⟨b, k * 6 + 3, none⟩
   (.slice (some ⟨q.bc,0,none⟩) (Xo fs k).cst.length (Xo fs k).cst.length)).setCell ⟨b,k *6+4,none⟩ (.slice (some ⟨q.bk,0,none⟩) (Xo fs k).names.length (Xo fs k).names.length)).setCell ⟨b,k *6+5,none⟩ (.slice (some ⟨q.bi,0,none⟩) (Xo fs k).kids.length (Xo fs k).kids.length)).rowIs b t m
   (Jq fs (Xpj Q k q) z (k+1)):=by
 refine ((((((h.set (k *6) _).set (k *6+1) _).set (k *6+2) _).set (k *6+3) _).set (k *6+4) _).set (k *6+5) _).congr fun j _=> ?_
 by_cases e5:j=k *6+5
 ·subst e5
  rw[if_pos rfl,Jq,if_pos (by omega),Xpi,Xcd]
 rw[if_neg e5]
 by_cases e4:j=k *6+4
 ·subst e4
  rw[if_pos rfl,Jq,if_pos (by omega),Xph,Xcd]
 rw[if_neg e4]
 by_cases e3:j=k *6+3
 ·subst e3
  rw[if_pos rfl,Jq,if_pos (by omega),Xpg,Xcd]
 rw[if_neg e3]
 by_cases e2:j=k *6+2
 ·subst e2
  rw[if_pos rfl,Jq,if_pos (by omega),Xyj]
 rw[if_neg e2]
 by_cases e1:j=k *6+1
 ·subst e1
  rw[if_pos rfl,Jq,if_pos (by omega),Xyi]
 rw[if_neg e1]
 by_cases e0:j=k *6
 ·subst e0
  rw[if_pos rfl,Jq,if_pos (by omega),Xyh]
 rw[if_neg e0]
 unfold Jq
 by_cases hj:j<k *6
 ·rw[if_pos hj,if_pos (by omega),Xyk hj]
 ·rw[if_neg hj,if_neg (by omega)]


structure OwnG (w:World) (x:FN) (lo bc:Nat) (KB KI:Nat->Nat) (bk bi:Nat):Prop where
 own:OwnF w x lo bc KB KI bk bi
 cb:bc<bk/\∀i,i<x.cst.length->bc<KB i/\bc<KI i/\KB i<bk/\KI i<bk
 nb:bk<bi
theorem OwnG.below {w w':World} {x:FN} {lo bc:Nat} {KB KI:Nat->Nat} {bk bi:Nat} (h:OwnG w x lo bc KB KI bk bi) (hb:Below w.heap.size w w'):OwnG w' x lo bc KB KI bk bi:=⟨h.own.below hb,h.cb,h.nb⟩
theorem OwnG.other {w:World} {x:FN} {lo bc:Nat} {KB KI:Nat->Nat} {bk bi c o:Nat} (h:OwnG w x lo bc KB KI bk bi) (hc:c<lo) (v:Value):OwnG (w.setCell ⟨c,o,none⟩ v) x lo bc KB KI bk bi:=⟨h.own.other hc v,h.cb,h.nb⟩
theorem OwnG.lower {w:World} {x:FN} {lo lo' bc:Nat} {KB KI:Nat->Nat} {bk bi:Nat} (h:OwnG w x lo bc KB KI bk bi) (hl:lo'<=lo):OwnG w x lo' bc KB KI bk bi:=⟨h.own.lower hl,h.cb,h.nb⟩
theorem Xqr (B:Nat) (x:FN) (kc kn ki:Value) (w:World) (h:FNodeIn B w x kc kn ki) (hB:B<=w.heap.size):
  Calls Tryz.prog 43 #[.agg #[.int .i64 x.kind, .string x.name, .int .i64 x.place,kc,kn,ki]] w fun e w'=>∃(bc:Nat) (KB KI:Nat->Nat) (bk bi:Nat),
   e= .returned (.agg #[.int .i64 x.kind, .string x.name, .int .i64 x.place, .slice (some ⟨bc,0,none⟩) x.cst.length x.cst.length, .slice (some ⟨bk,0,none⟩) x.names.length x.names.length, .slice (some ⟨bi,0,none⟩) x.kids.length x.kids.length])/\
   OwnG w' x w.heap.size bc KB KI bk bi/\Below w.heap.size w w':=by
 have H:=Xa h
 obtain ⟨_,a0,c0,e0,_⟩:=h.cst
 obtain ⟨_,_,a1,c1,e1,_⟩:=h.names
 obtain ⟨_,_,a2,c2,e2,_⟩:=h.kids
 subst e0 e1 e2
 clear h
 have q:∀o1 o2 o3:Obj,Below w.heap.size w (((w.alloc o1).alloc o2).alloc o3):=fun o1 o2 o3=>(((Below.refl _ _).alloc (Nat.le_refl _) _).alloc (by simp) _).alloc (by simp;omega) _
 go_enter Tryz.func43,Tryz.ntmps43
 go_wp2_with fail
 refine (Vs B _ x.cst _ (H.out.cst.below ((q _ _ _).mono hB)) (by simp;omega)).mono ?_
 rintro e j ⟨KB,KI,rfl,f,o⟩
 obtain ⟨s,R⟩:=Xh3 o
 have S:=o.size
 have t:Below w.heap.size w j:=(q _ _ _).trans (o.mono (by simp;omega))
 simp only[World.size_alloc] at s R S f
 have y:=f.row.lt
 have T:Hid ((w.heap.size+1+1+1)<j.heap.size/\∀i,i<x.cst.length->(w.heap.size+1+1+1)<KB i/\(w.heap.size+1+1+1)<KI i/\KB i<j.heap.size/\KI i<j.heap.size):=⟨y,fun i hi=>by
  have h1:=f.to.lo i hi
  have h2:=(f.to.rk i hi).lt
  have h3:=(f.to.ri i hi).lt
  omega⟩
 have V:=Xa f
 have z:=Xa t
 clear f t o
 have y0:w.heap.size<w.heap.size+1+1+1:=by omega
 have y1:w.heap.size+1<w.heap.size+1+1+1:=by omega
 have y2:w.heap.size+1+1<w.heap.size+1+1+1:=by omega
 go_wp2_with fail
 refine (Xd4 B _ x.names _ (H.out.names.below ((z.out.setCell (by simp;omega) _).mono hB)) (by simp;omega)).mono ?_
 rintro e p ⟨rfl,b,l⟩
 obtain ⟨C,X⟩:=Xh3 l
 have Y:=l.size
 have D:Below w.heap.size w p:=(z.out.setCell (by simp;omega) _).trans (l.mono (by simp;omega))
 have F:=(V.out.other (c:=w.heap.size+1+1) (by omega) _).below l
 simp only[World.size_setCell] at C X Y b
 have bg:=b.lt
 have Z:=Xa F
 have G:=Xa D
 have ba:=Xa b
 clear F D l b
 have y3:w.heap.size<j.heap.size:=by omega
 have y4:w.heap.size+1<j.heap.size:=by omega
 have y5:w.heap.size+1+1<j.heap.size:=by omega
 go_wp2_with fail
 refine (Xeo B _ x.kids _ (H.out.kids.below ((G.out.setCell (by simp;omega) _).mono hB)) (by simp;omega)).mono ?_
 rintro e w3 ⟨rfl,d,g⟩
 obtain ⟨J,bb⟩:=Xh3 g
 have bd:=g.size
 have L:Below w.heap.size w w3:=(G.out.setCell (by simp;omega) _).trans (g.mono (by simp;omega))
 have M:=(Z.out.other (c:=w.heap.size+1+1) (by omega) _).below g
 have P:=Y4 (ba.out.setOther (Z7 (show j.heap.size≠w.heap.size+1+1 by omega)) _) g (by simp;omega)
 simp only[World.size_setCell] at J bb bd d
 have bh:=d.lt
 have be:Hid (OwnG w3 x (w.heap.size+1+1+1) (w.heap.size+1+1+1) KB KI j.heap.size p.heap.size):=⟨⟨by omega,by omega,by omega,M,P,d⟩,T.out,by omega⟩
 have bf:=Xa L
 clear M L g P d
 have y6:w.heap.size<p.heap.size:=by omega
 have y7:w.heap.size+1<p.heap.size:=by omega
 have y8:w.heap.size+1+1<p.heap.size:=by omega
 go_wp2_with fail
 refine bodyPost_ret (v:= .agg #[.int .i64 x.kind, .string x.name, .int .i64 x.place, .slice (some ⟨w.heap.size+1+1+1,0,none⟩) x.cst.length x.cst.length, .slice (some ⟨j.heap.size,0,none⟩) x.names.length x.names.length, .slice (some ⟨p.heap.size,0,none⟩) x.kids.length x.kids.length]) (by simp[results,Tryz.results43,go_sem,J,C,s,y1,y4,y7]) rfl ⟨w.heap.size+1+1+1,KB,KI,j.heap.size,p.heap.size,rfl, ?_, ?_⟩
 ·refine OwnG.lower (lo:=w.heap.size+1+1+1) ?_ (by omega)
  refine OwnG.other ?_ (by omega) _
  refine OwnG.other ?_ (by omega) _
  refine OwnG.other ?_ (by omega) _
  refine OwnG.other ?_ (by omega) _
  refine OwnG.other ?_ (by omega) _
  refine OwnG.other ?_ (by omega) _
  refine OwnG.other ?_ (by omega) _
  exact be.out
 ·refine Below.setCell (Below.setCell (Below.setCell (Below.setCell (Below.setCell (Below.setCell (Below.setCell bf.out ?_ _) ?_ _) ?_ _) ?_ _) ?_ _) ?_ _) ?_ _<;>simp<;>omega


structure OwnsG (w:World) (fs:List FN) (lo:Nat) (L:Nat->Nat) (Q:Nat->FBq) (k:Nat):Prop where
 own:∀i,i<k->OwnG w (Xo fs i) (L i) (Q i).bc (Q i).kb (Q i).ki (Q i).bk (Q i).bi/\(Q i).bi<L (i+1)
 low:∀i,i<=k->lo<=L i
 mono:∀i j,i<=j->j<=k->L i<=L j
 top:L k<=w.heap.size
theorem OwnsG.below {w w':World} {fs:List FN} {lo k:Nat} {L:Nat->Nat} {Q:Nat->FBq} (h:OwnsG w fs lo L Q k) (hb:Below w.heap.size w w'):OwnsG w' fs lo L Q k:=⟨fun i hi=>⟨(h.own i hi).1.below hb,(h.own i hi).2⟩,h.low,h.mono,Nat.le_trans h.top hb.size⟩
theorem OwnsG.other {w:World} {fs:List FN} {lo k c o:Nat} {L:Nat->Nat} {Q:Nat->FBq} (h:OwnsG w fs lo L Q k) (hc:c<lo) (v:Value):OwnsG (w.setCell ⟨c,o,none⟩ v) fs lo L Q k:=⟨fun i hi=>⟨(h.own i hi).1.other (Nat.lt_of_lt_of_le hc (h.low i (by omega))) v,(h.own i hi).2⟩,h.low,h.mono,by rw[World.size_setCell];exact h.top⟩
theorem OwnsG.step {w w1:World} {fs:List FN} {lo k:Nat} {L:Nat->Nat} {Q:Nat->FBq} (h:OwnsG w fs lo L Q k) (hb:Below w.heap.size w w1) (q:FBq) (hq:OwnG w1 (Xo fs k) w.heap.size q.bc q.kb q.ki q.bk q.bi):OwnsG w1 fs lo (fun i=>if i<k then L i else if i=k then w.heap.size else w1.heap.size) (Xpj Q k q) (k+1):=by
 have f:=hb.size
 have g:=h.top
 refine ⟨fun i hi=> ?_,fun i hi=> ?_,fun i j hij hj=> ?_, ?_⟩
 ·by_cases e:i=k
  ·subst e
   rw[Xcd]
   simp only[Nat.lt_irrefl,if_true,if_false]
   rw[if_neg (by omega),if_neg (by omega)]
   exact ⟨hq,hq.own.ri.lt⟩
  ·rw[Xi0 Q q e]
   have b:i<k:=by omega
   simp only[if_pos b]
   refine ⟨(h.own i b).1.below hb, ?_⟩
   have c:=(h.own i b).2
   by_cases e2:i+1<k
   ·rw[if_pos e2];exact c
   ·have d:i+1=k:=by omega
    rw[if_neg e2,if_pos d]
    rw[d] at c
    omega
 ·have c:=h.low (min i k) (Nat.min_le_right _ _)
  have l:=h.low k (Nat.le_refl _)
  by_cases e:i<k
  ·simp only[if_pos e];exact h.low i (by omega)
  ·simp only[if_neg e]
   split<;>omega
 ·by_cases ej:j<k
  ·simp only[if_pos ej,if_pos (show i<k by omega)];exact h.mono i j hij (by omega)
  ·by_cases ei:i<k
   ·have c:=h.mono i k (by omega) (Nat.le_refl _)
    simp only[if_pos ei,if_neg ej]
    split<;>omega
   ·simp only[if_neg ei,if_neg ej]
    by_cases e1:j=k
    ·rw[if_pos (show i=k by omega),if_pos e1];exact Nat.le_refl _
    ·rw[if_neg e1]
     split<;>omega
 ·simp only[if_neg (show ¬k+1<k by omega),if_neg (show ¬k+1=k by omega)]
  exact Nat.le_refl _
theorem Xfi (B:Nat) (v:Value) (fs:List FN) (w:World) (h:FNodesAt B w v fs) (hB:B<=w.heap.size):
  Calls Tryz.prog 13 #[v] w fun e w'=>e= .returned (.slice (some ⟨w.heap.size,0,none⟩) fs.length fs.length)/\
   (∃(L:Nat->Nat) (Q:Nat->FBq),w'.rowIs w.heap.size 84 (fs.length *6) (Jp fs Q)/\OwnsG w' fs (w.heap.size+1) L Q fs.length)/\FNodesAt w'.heap.size w' (.slice (some ⟨w.heap.size,0,none⟩) fs.length fs.length) fs/\Below w.heap.size w w':=by
 obtain ⟨D,a,bh,rfl,p⟩:=h
 have X:=Xiz fs.length (by omega)
 have HC:=Xa p
 clear p
 go_enter Tryz.func13,Tryz.ntmps13
 go_wp2_with fail
 clear X
 obtain ⟨z,hz⟩:∃z:Nat->Value,∀i,i<(Vi fs.length).size->(Vi fs.length)[i]? =some (z i):=⟨fun i=>((Vi fs.length)[i]?).getD undef,fun i hi=>by simp[hi]⟩
 have s:=World.rowIs_alloc w _ 84 z hz
 rw[Xiy] at s
 have F:(w.alloc (.cells (Vi fs.length) 84)).rowIs w.heap.size 84 (fs.length *6) (Jq fs (fun _=>⟨0,fun _=>0,fun _=>0,0,0⟩) z 0):=s.congr fun i _=>by simp[Jq]
 have G:Below w.heap.size w (w.alloc (.cells (Vi fs.length) 84)):=(Below.refl _ _).alloc (Nat.le_refl _) _
 clear hz s
 go_loopw [4] (fun i wr=>∃(k:Nat) (L:Nat->Nat) (Q:Nat->FBq),k<=fs.length/\i= .int .i64 k/\wr.rowIs w.heap.size 84 (fs.length *6) (Jq fs Q z k)/\OwnsG wr fs (w.heap.size+1) L Q k/\Below w.heap.size w wr) (fun i _=>fs.length-(intOf i).toNat)
 case atStart=>exact ⟨0,fun _=>w.heap.size+1,_,Nat.zero_le _,rfl,F,⟨fun i hi=>by omega,fun _ _=>Nat.le_refl _,fun _ _ _ _=>Nat.le_refl _,by simp⟩,G⟩
 case round=>
  obtain ⟨k,L,Q,hk,rfl,d,g,l⟩:=hrel
  clear F G
  by_cases hlt:k<fs.length
  ·obtain ⟨b,o,rfl,J,T⟩:=HC.out (by omega)
   obtain ⟨kc,kn,ki,V⟩:=T k hlt
   have f:=V.below (l.mono hB) J
   have c0:=f.c0
   have c1:=f.c1
   have c2:=f.c2
   have c3:=f.c3
   have c4:=f.c4
   have c5:=f.c5
   have Y:=Xa f.inn
   have t:=l.size
   have M:=d.lt
   clear T V f
   go_wp2_with fail
   refine (Xqr B (Xo fs k) kc kn ki _ Y.out (by omega)).mono ?_
   rintro e w1 ⟨bc,KB,KI,bk,bi,rfl,P,y⟩
   have c:=Y4 d y M
   have ba:=c.cell (i:=k *6) (by omega)
   have bb:=c.cell (i:=k *6+1) (by omega)
   have bd:=c.cell (i:=k *6+2) (by omega)
   have be:=c.cell (i:=k *6+3) (by omega)
   have bf:=c.cell (i:=k *6+4) (by omega)
   have bg:=c.cell (i:=k *6+5) (by omega)
   have bj:=c.frozen
   have R:=Xa (Xu6 ⟨bc,KB,KI,bk,bi⟩ c)
   have Z:=Xa (g.step y ⟨bc,KB,KI,bk,bi⟩ P)
   have C:Below w.heap.size w w1:=l.trans (y.mono t)
   clear P g d c
   go_wp2_with fail
   go_roundw
   case rel=>
    refine ⟨k+1,(fun i=>if i<k then L i else if i=k then wr.heap.size else w1.heap.size),_,by omega,by go_num,R.out, ?_, ?_⟩
    ·refine OwnsG.other ?_ (by omega) _
     refine OwnsG.other ?_ (by omega) _
     refine OwnsG.other ?_ (by omega) _
     refine OwnsG.other ?_ (by omega) _
     refine OwnsG.other ?_ (by omega) _
     refine OwnsG.other ?_ (by omega) _
     exact Z.out
    ·refine Below.setCell (Below.setCell (Below.setCell (Below.setCell (Below.setCell (Below.setCell C ?_ _) ?_ _) ?_ _) ?_ _) ?_ _) ?_ _<;>simp
   case measure=>simp[intOf];omega
  ·obtain rfl:k=fs.length:=by omega
   have q:=Xa d
   have S:=Xa g
   clear d g
   go_wp2_with fail
   go_ret
   refine ⟨rfl,⟨L,Q,q.out.congr (fun j hj=>by rw[Jq,if_pos hj]),S.out⟩,⟨D,_,_,rfl,fun hp=>⟨w.heap.size,0,rfl,q.out.lt,fun i hi=> ?_⟩⟩,l⟩
   obtain ⟨b,o,_,J,T⟩:=HC.out hp
   obtain ⟨kc,kn,ki,V⟩:=T i hi
   refine ⟨_,_,_, ?_, ?_, ?_, ?_, ?_, ?_,((S.out.own i hi).1.own).inn V.inn⟩
   ·rw[Nat.zero_add,q.out.cell (by omega),Jq,if_pos (by omega),Xyh]
   ·rw[Nat.zero_add,q.out.cell (by omega),Jq,if_pos (by omega),Xyi]
   ·rw[Nat.zero_add,q.out.cell (by omega),Jq,if_pos (by omega),Xyj]
   ·rw[Nat.zero_add,q.out.cell (by omega),Jq,if_pos (by omega),Xpg];rfl
   ·rw[Nat.zero_add,q.out.cell (by omega),Jq,if_pos (by omega),Xph];rfl
   ·rw[Nat.zero_add,q.out.cell (by omega),Jq,if_pos (by omega),Xpi];rfl
theorem Xav (B:Nat) (v:Value) (fs:List FN) (w:World) (h:FNodesAt B w v fs) (hB:B<=w.heap.size):
  Calls Tryz.prog 13 #[v] w fun e w'=>e= .returned (.slice (some ⟨w.heap.size,0,none⟩) fs.length fs.length)/\FNodesAt w'.heap.size w' (.slice (some ⟨w.heap.size,0,none⟩) fs.length fs.length) fs/\Below w.heap.size w w':=
 (Xfi B v fs w h hB).mono fun e w' h=>⟨h.1,h.2.2⟩


theorem Xq5 (B:Nat) (x:FN) (kc kn ki kc' kn' ki':Value) (w:World) (h:FNodeIn B w x kc kn ki) (h':FNodeIn B w x kc' kn' ki') (hB:B<=w.heap.size):
  Calls Tryz.prog 45 #[.agg #[.int .i64 x.kind, .string x.name, .int .i64 x.place,kc,kn,ki], .agg #[.int .i64 x.kind, .string x.name, .int .i64 x.place,kc',kn',ki']] w fun e w'=>e= .returned (.bool true)/\Below w.heap.size w w':=by
 have H:=Xa h
 have q:=Xa h'
 obtain ⟨_,z,c0,e0,_⟩:=h.cst
 obtain ⟨_,_,C,c1,e1,_⟩:=h.names
 obtain ⟨_,_,D,F,e2,_⟩:=h.kids
 obtain ⟨_,G,J,e3,_⟩:=h'.cst
 obtain ⟨_,_,L,M,e4,_⟩:=h'.names
 obtain ⟨_,_,P,R,e5,_⟩:=h'.kids
 have f1:(x.kind !=x.kind)=false:=by simp
 have f2:(x.place !=x.place)=false:=by simp
 have f3:(x.name.toList==x.name.toList)=true:=by simp
 subst e0 e1 e2 e3 e4 e5
 clear h h'
 obtain ⟨c,b⟩:∃c,c=(w.alloc (.cells #[.int .i64 x.kind, .string x.name, .int .i64 x.place, .slice z x.cst.length c0, .slice C x.names.length c1, .slice D x.kids.length F] 84)).alloc (.cells #[.int .i64 x.kind, .string x.name, .int .i64 x.place, .slice G x.cst.length J, .slice L x.names.length M, .slice P x.kids.length R] 84):=⟨_,rfl⟩
 have d3:c.cell? ⟨w.heap.size,3,none⟩=some (.slice z x.cst.length c0):=by rw[b];simp
 have S:c.cell? ⟨w.heap.size,4,none⟩=some (.slice C x.names.length c1):=by rw[b];simp
 have T:c.cell? ⟨w.heap.size,5,none⟩=some (.slice D x.kids.length F):=by rw[b];simp
 have g3:c.cell? ⟨w.heap.size+1,3,none⟩=some (.slice G x.cst.length J):=by rw[b];simp
 have V:c.cell? ⟨w.heap.size+1,4,none⟩=some (.slice L x.names.length M):=by rw[b];simp
 have X:c.cell? ⟨w.heap.size+1,5,none⟩=some (.slice P x.kids.length R):=by rw[b];simp
 have g:Hid (c.heap.size=w.heap.size+1+1):=by rw[Hid,b];simp
 have j:Hid (Below w.heap.size w c):=by rw[Hid,b];exact ((Below.refl _ _).alloc (Nat.le_refl _) _).alloc (by simp) _
 have s:=Xa b
 clear b
 go_enter Tryz.func45,Tryz.ntmps45
 go_wp2_with fail
 rw[<-s.out]
 refine (Xbo B _ _ x.cst c (H.out.cst.below (j.out.mono hB)) (q.out.cst.below (j.out.mono hB)) (by rw[g.out];omega)).mono ?_
 rintro e t ⟨rfl,d⟩
 have j4:=(Xc d (show w.heap.size<c.heap.size by rw[g.out];omega)).trans S
 have Y:=(Xc d (show w.heap.size<c.heap.size by rw[g.out];omega)).trans T
 have k4:=(Xc d (show w.heap.size+1<c.heap.size by rw[g.out];omega)).trans V
 have Z:=(Xc d (show w.heap.size+1<c.heap.size by rw[g.out];omega)).trans X
 have z2:=d.size
 rw[g.out] at z2
 have l:Hid (Below w.heap.size w t):=j.out.trans (d.mono (by rw[g.out];omega))
 clear d d3 S T g3 V X
 go_wp2_with fail
 refine (Xd9 B _ _ x.names _ (H.out.names.below (l.out.mono hB)) (q.out.names.below (l.out.mono hB)) (by omega)).mono ?_
 rintro e w3 ⟨rfl,f⟩
 have l5:=(Xc f (show w.heap.size<t.heap.size by omega)).trans Y
 have m5:=(Xc f (show w.heap.size+1<t.heap.size by omega)).trans Z
 have z3:=f.size
 have o:Hid (Below w.heap.size w w3):=l.out.trans (f.mono (by omega))
 clear f j4 Y k4 Z
 go_wp2_with fail
 refine (Xev B _ _ x.kids _ (H.out.kids.below (o.out.mono hB)) (q.out.kids.below (o.out.mono hB)) (by omega)).mono ?_
 rintro e w4 ⟨rfl,p⟩
 have y:Hid (Below w.heap.size w w4):=o.out.trans (p.mono (by omega))
 clear p
 go_wp2_with fail
 go_ret
 exact ⟨rfl,y.out⟩
theorem Xn6 (B:Nat) (v1 v2:Value) (fs:List FN) (w:World) (h1:FNodesAt B w v1 fs) (h2:FNodesAt B w v2 fs) (hB:B<=w.heap.size):
  Calls Tryz.prog 16 #[v1,v2] w fun e w'=>e= .returned (.bool true)/\Below w.heap.size w w':=by
 obtain ⟨J,Z,L,rfl,c⟩:=h1
 obtain ⟨_,a2,M,rfl,d⟩:=h2
 have R:((fs.length:Int) !=(fs.length:Int))=false:=by simp
 have t:=Xa c
 have y:=Xa d
 clear c d
 go_enter Tryz.func16,Tryz.ntmps16
 go_wp2_with fail
 go_loopw [5] (fun i wr=>∃k:Nat,k<=fs.length/\i= .int .i64 k/\Below w.heap.size w wr) (fun i _=>fs.length-(intOf i).toNat)
 case atStart=>exact ⟨0,Nat.zero_le _,rfl,Below.refl _ _⟩
 case round=>
  obtain ⟨k,hk,rfl,b⟩:=hrel
  by_cases hlt:k<fs.length
  ·obtain ⟨b1,o1,rfl,z,o⟩:=t.out (by omega)
   obtain ⟨b2,o2,rfl,j,p⟩:=y.out (by omega)
   obtain ⟨S,T,V,P⟩:=o k hlt
   obtain ⟨C,D,F,q⟩:=p k hlt
   have g:=P.below (b.mono hB) z
   have f:=q.below (b.mono hB) j
   have c0:=g.c0
   have c1:=g.c1
   have c2:=g.c2
   have c3:=g.c3
   have c4:=g.c4
   have c5:=g.c5
   have d0:=f.c0
   have d1:=f.c1
   have d2:=f.c2
   have d3:=f.c3
   have d4:=f.c4
   have d5:=f.c5
   have G:=g.inn
   have s:=f.inn
   have l:=b.size
   clear o p P q g f
   go_wp2_with fail
   go_region_with (go_at_call 45;refine (Xq5 B (Xo fs k) S T V C D F _ ?_ ?_ ?_).mono ?_;exact G.below (W9 rfl rfl rfl rfl);exact s.below (W9 rfl rfl rfl rfl);exact (by simp;omega);rintro e X ⟨rfl,Y⟩)
   all_goals
    have j:Below w.heap.size w X:=b.drew.trans (Y.mono (by simpa using l))
    go_wp2_with fail
    go_roundw
    case rel=>exact ⟨k+1,by omega,by go_num,j⟩
    case measure=>simp[intOf];omega
  ·go_wp2_with fail
   go_ret
   exact ⟨rfl,b⟩


end Go.Proofs.YtdjddneidbddpaaGreatDoor
