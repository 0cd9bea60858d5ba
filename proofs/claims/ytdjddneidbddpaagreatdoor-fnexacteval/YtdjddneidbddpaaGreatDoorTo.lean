import Derived.Test.YtdjddneidbddpaaGreatDoorByP
import Derived.Test.YtdjddneidbddpaaGreatDoorProg
import Derived.Deep.OwnRows
import Derived.KernelRfl
namespace Go.Proofs.YtdjddneidbddpaaGreatDoor
set_option linter.unusedSectionVars false
set_option maxHeartbeats 1600000
open Go.RowKit
set_option linter.unusedSimpArgs false
set_option linter.unusedVariables false
theorem Wg:(Tryz.prog.info? 2).map (fun i=>(i.zero,i.size,i.bytes))=some (some (.int .i64 0),1,8):=by kernel_rfl
theorem Wh:(Tryz.prog.info? 9).map (fun i=>(i.zero,i.size,i.bytes))=some (some (.string ByteArray.empty),1,16):=by kernel_rfl
def Wi (l:List Int) (k:Nat) (j:Nat):Value:=if j<k then .int .i64 (Xj l j) else .int .i64 0
def Wj (l:List ByteArray) (k:Nat) (j:Nat):Value:=if j<k then .string (Xf l j) else .string ByteArray.empty
theorem Xmz {w:World} {b t n k:Nat} {l:List Int} (h:w.rowIs b t n (Wi l k)):(w.setCell ⟨b,k,none⟩ (.int .i64 (Xj l k))).rowIs b t n (Wi l (k+1)):=by
 refine (h.set k _).congr fun i _=> ?_
 unfold Wi
 by_cases e:i=k
 ·subst e;rw[if_pos rfl,if_pos (by omega)]
 ·rw[if_neg e];by_cases g:i<k
  ·rw[if_pos g,if_pos (by omega)]
  ·rw[if_neg g,if_neg (by omega)]
theorem Xm0 {w:World} {b t n k:Nat} {l:List ByteArray} (h:w.rowIs b t n (Wj l k)):(w.setCell ⟨b,k,none⟩ (.string (Xf l k))).rowIs b t n (Wj l (k+1)):=by
 refine (h.set k _).congr fun i _=> ?_
 unfold Wj
 by_cases e:i=k
 ·subst e;rw[if_pos rfl,if_pos (by omega)]
 ·rw[if_neg e];by_cases g:i<k
  ·rw[if_pos g,if_pos (by omega)]
  ·rw[if_neg g,if_neg (by omega)]
theorem Xeo (B:Nat) (v:Value) (l:List Int) (w:World) (h:IntsAt B w v l) (hB:B<=w.heap.size):
  Calls Tryz.prog 90 #[v] w fun e w'=>e= .returned (.slice (some ⟨w.heap.size,0,none⟩) l.length l.length)/\
   w'.rowIs w.heap.size 2 l.length (fun j=> .int .i64 (Xj l j))/\Below w.heap.size w w':=by
 obtain ⟨z,_,a,D,rfl,d⟩:=h
 have t:=run_make_row' (P:=Tryz.prog) 73 2 (.int .i64 0) 8 Tryz.underlying73 Wg rfl .i64 .i64 l.length (by omega) (by omega)
 go_enter Tryz.func90,Tryz.ntmps90
 go_wp2
 clear t
 have g:((w.alloc (.cells (madeCells #[Value.int .i64 0] l.length) 2)).rowIs w.heap.size 2 l.length (Wi l 0)):=(World.rowIs_made w _ _ _).congr fun i _=>by simp[Wi]
 have q:Below w.heap.size w (w.alloc (.cells (madeCells #[Value.int .i64 0] l.length) 2)):=(Below.refl _ _).alloc (Nat.le_refl _) _
 go_loopw [4] (fun i wr=>∃k:Nat,k<=l.length/\i= .int .i64 k/\wr.rowIs w.heap.size 2 l.length (Wi l k)/\Below w.heap.size w wr) (fun i _=>l.length-(intOf i).toNat)
 case atStart=>exact ⟨0,Nat.zero_le _,rfl,g,q⟩
 case round=>
  obtain ⟨k,M,rfl,c,f⟩:=hrel
  clear g q
  by_cases hlt:k<l.length
  ·obtain ⟨b,o,rfl,F,C⟩:=d (by omega)
   have G:=(Xc (o:=o+k) f (show b<w.heap.size by omega)).trans (C k hlt)
   have J:=c.cell hlt
   have L:=c.frozen k
   have s:=Xmz c
   have y:=f.setCell (p:=⟨w.heap.size,k,none⟩) (Nat.le_refl _) (.int .i64 (Xj l k))
   clear C d
   go_wp2
   go_roundw
   case rel=>exact ⟨k+1,by omega,by go_num,s,y⟩
   case measure=>simp[intOf];omega
  ·obtain rfl:k=l.length:=by omega
   go_wp2
   go_ret
   exact ⟨rfl,c.congr fun i hi=>by simp[Wi,hi],f⟩
theorem Xd4 (B:Nat) (v:Value) (l:List ByteArray) (w:World) (h:StrsAt B w v l) (hB:B<=w.heap.size):
  Calls Tryz.prog 89 #[v] w fun e w'=>e= .returned (.slice (some ⟨w.heap.size,0,none⟩) l.length l.length)/\
   w'.rowIs w.heap.size 9 l.length (fun j=> .string (Xf l j))/\Below w.heap.size w w':=by
 obtain ⟨z,_,a,D,rfl,d⟩:=h
 have t:=run_make_row' (P:=Tryz.prog) 72 9 (.string ByteArray.empty) 16 Tryz.underlying72 Wh rfl .i64 .i64 l.length (by omega) (by omega)
 go_enter Tryz.func89,Tryz.ntmps89
 go_wp2
 clear t
 have g:((w.alloc (.cells (madeCells #[Value.string ByteArray.empty] l.length) 9)).rowIs w.heap.size 9 l.length (Wj l 0)):=(World.rowIs_made w _ _ _).congr fun i _=>by simp[Wj]
 have q:Below w.heap.size w (w.alloc (.cells (madeCells #[Value.string ByteArray.empty] l.length) 9)):=(Below.refl _ _).alloc (Nat.le_refl _) _
 go_loopw [4] (fun i wr=>∃k:Nat,k<=l.length/\i= .int .i64 k/\wr.rowIs w.heap.size 9 l.length (Wj l k)/\Below w.heap.size w wr) (fun i _=>l.length-(intOf i).toNat)
 case atStart=>exact ⟨0,Nat.zero_le _,rfl,g,q⟩
 case round=>
  obtain ⟨k,M,rfl,c,f⟩:=hrel
  clear g q
  by_cases hlt:k<l.length
  ·obtain ⟨b,o,rfl,F,C⟩:=d (by omega)
   have G:=(Xc (o:=o+k) f (show b<w.heap.size by omega)).trans (C k hlt)
   have J:=c.cell hlt
   have L:=c.frozen k
   have s:=Xm0 c
   have y:=f.setCell (p:=⟨w.heap.size,k,none⟩) (Nat.le_refl _) (.string (Xf l k))
   clear C d
   go_wp2
   go_roundw
   case rel=>exact ⟨k+1,by omega,by go_num,s,y⟩
   case measure=>simp[intOf];omega
  ·obtain rfl:k=l.length:=by omega
   go_wp2
   go_ret
   exact ⟨rfl,c.congr fun i hi=>by simp[Wj,hi],f⟩
theorem Xh3 {W w1:World} (hb:Below W.heap.size W w1):(∀b o,b<W.heap.size->w1.cell? ⟨b,o,none⟩=W.cell? ⟨b,o,none⟩)/\(∀b o,b<W.heap.size->w1.frozen? ⟨b,o,none⟩=W.frozen? ⟨b,o,none⟩):=
 ⟨fun b o h=>hb.cell (p:=⟨b,o,none⟩) h,fun b o h=>hb.frozen (p:=⟨b,o,none⟩) h⟩
theorem Y4 {B b t n:Nat} {w w':World} {f:Nat->Value} (h:w.rowIs b t n f) (hb:Below B w w') (hB:b<B):w'.rowIs b t n f:=h.of_block (hb.block b hB)
theorem Xqn (B:Nat) (x:VN) (ka ki:Value) (w:World) (h:NodeIn B w x ka ki) (hB:B<=w.heap.size):
  Calls Tryz.prog 44 #[.agg #[.int .i64 x.kind, .int .i64 x.n, .string x.s,ka,ki]] w fun e w'=>∃bk bi:Nat,
   e= .returned (.agg #[.int .i64 x.kind, .int .i64 x.n, .string x.s, .slice (some ⟨bk,0,none⟩) x.keys.length x.keys.length, .slice (some ⟨bi,0,none⟩) x.kids.length x.kids.length])/\
   w.heap.size<=bk/\bk<bi/\w'.rowIs bk 9 x.keys.length (fun j=> .string (Xf x.keys j))/\w'.rowIs bi 2 x.kids.length (fun j=> .int .i64 (Xj x.kids j))/\Below w.heap.size w w':=by
 obtain ⟨_,_,T,c1,G,_⟩:=h.keys
 obtain ⟨_,_,J,L,M,_⟩:=h.kids
 have H:Hid (NodeIn B w x ka ki):=h
 subst G M
 clear h
 go_enter Tryz.func44,Tryz.ntmps44
 go_wp2_with fail
 refine (Xd4 B _ _ _ (H.out.keys.below (((((Below.refl _ _).alloc (Nat.le_refl _) _).alloc (by simp) _).alloc (by simp;omega) _).mono hB)) (by simp;omega)).mono ?_
 rintro e g ⟨rfl,b,d⟩
 obtain ⟨l,q⟩:=Xh3 d
 have t:=d.size
 simp only[World.size_alloc] at l q t b
 have y:IntsAt B (g.setCell ⟨w.heap.size+1+1,3,none⟩ (.slice (some ⟨w.heap.size+1+1+1,0,none⟩) x.keys.length x.keys.length)) (.slice J x.kids.length L) x.kids:=by
  refine H.out.kids.below ?_
  exact ((((((Below.refl _ _).alloc (Nat.le_refl _) _).alloc (by simp) _).alloc (by simp;omega) _).mono hB).trans (d.mono (by simp;omega))).setCell (by simp;omega) _
 go_wp2_with fail
 refine (Xeo B _ _ _ y (by simp;omega)).mono ?_
 rintro e F ⟨rfl,c,f⟩
 obtain ⟨o,z⟩:=Xh3 f
 have C:=f.size
 simp only[World.size_setCell] at o z C c
 have p:=b.lt
 have P:w.heap.size+1+1<g.heap.size:=by omega
 have D:w.heap.size+1<g.heap.size:=by omega
 have R:F.rowIs (w.heap.size+1+1+1) 9 x.keys.length (fun j=> .string (Xf x.keys j)):=Y4 (b.setOther (by simp) _) f (by simpa using p)
 have S:Below w.heap.size w F:=((((((Below.refl _ _).alloc (Nat.le_refl _) _).alloc (by simp) _).alloc (by simp;omega) _).trans (d.mono (by simp;omega))).setCell (by simp;omega) _).trans (f.mono (by simp;omega))
 go_wp2_with fail
 refine bodyPost_ret (v:= .agg #[.int .i64 x.kind, .int .i64 x.n, .string x.s, .slice (some ⟨w.heap.size+1+1+1,0,none⟩) x.keys.length x.keys.length, .slice (some ⟨g.heap.size,0,none⟩) x.kids.length x.kids.length]) (by simp[results,Tryz.results44,go_sem,o,l,D]) rfl ⟨w.heap.size+1+1+1,g.heap.size,rfl,by omega,p, ?_, ?_, ?_⟩
 ·refine World.rowIs.setOther (World.rowIs.setOther (World.rowIs.setOther (World.rowIs.setOther (World.rowIs.setOther (World.rowIs.setOther R ?_ _) ?_ _) ?_ _) ?_ _) ?_ _) ?_ _<;>simp<;>omega
 ·refine World.rowIs.setOther (World.rowIs.setOther (World.rowIs.setOther (World.rowIs.setOther (World.rowIs.setOther (World.rowIs.setOther c ?_ _) ?_ _) ?_ _) ?_ _) ?_ _) ?_ _<;>simp<;>omega
 ·refine Below.setCell (Below.setCell (Below.setCell (Below.setCell (Below.setCell (Below.setCell S ?_ _) ?_ _) ?_ _) ?_ _) ?_ _) ?_ _<;>simp<;>omega
def zeroNode:Value:= .agg #[.int .i64 0, .int .i64 0, .string ByteArray.empty, .slice none 0 0, .slice none 0 0]
theorem Kj:(Tryz.prog.info? 75).map (fun i=>(i.zero,i.size,i.bytes))=some (some zeroNode,5,80):=by kernel_rfl
def Vr (n:Nat):Array Value:=madeCells zeroNode.cells (n *5)
theorem Xjl (n:Nat):(Vr n).size=n *5:=size_madeCells _ _
theorem Xjm (n:Nat) (hb:80 *n<=281474976710656) (w:World):
  (Instr.makeSlice 25 (.int .i64 (n:Int)) (.int .i64 (n:Int))).run Tryz.prog w= .ok (.slice (some ⟨w.heap.size,0,none⟩) n n) (w.alloc (.cells (Vr n) 75)):=by
 obtain ⟨i,f,b⟩:=Option.map_eq_some_iff.1 Kj
 simp only[Prod.mk.injEq] at b
 obtain ⟨g,j,c⟩:=b
 have d:=run_make (P:=Tryz.prog) w 25 75 i zeroNode Tryz.underlying25 f g .i64 .i64 n n (by omega) (Int.le_refl _) (by rw[c];omega) (by omega)
 simp only[Int.toNat_natCast,j] at d
 exact d
def Qi (vs:List VN) (KB KI:Nat->Nat) (j:Nat):Value:=
 if j%5=0 then .int .i64 (Xb vs (j/5)).kind
 else if j%5=1 then .int .i64 (Xb vs (j/5)).n
 else if j%5=2 then .string (Xb vs (j/5)).s
 else if j%5=3 then .slice (some ⟨KB (j/5),0,none⟩) (Xb vs (j/5)).keys.length (Xb vs (j/5)).keys.length
 else .slice (some ⟨KI (j/5),0,none⟩) (Xb vs (j/5)).kids.length (Xb vs (j/5)).kids.length
theorem Xkn (vs:List VN) (KB KI:Nat->Nat) (i:Nat):Qi vs KB KI (i *5)= .int .i64 (Xb vs i).kind:=by
 unfold Qi
 rw[if_pos (by omega),show i *5/5=i by omega]
theorem Xko (vs:List VN) (KB KI:Nat->Nat) (i:Nat):Qi vs KB KI (i *5+1)= .int .i64 (Xb vs i).n:=by
 unfold Qi
 rw[if_neg (by omega),if_pos (by omega),show (i *5+1)/5=i by omega]
theorem Xkp (vs:List VN) (KB KI:Nat->Nat) (i:Nat):Qi vs KB KI (i *5+2)= .string (Xb vs i).s:=by
 unfold Qi
 rw[if_neg (by omega),if_neg (by omega),if_pos (by omega),show (i *5+2)/5=i by omega]
theorem Xep (vs:List VN) (KB KI:Nat->Nat) (i:Nat):Qi vs KB KI (i *5+3)= .slice (some ⟨KB i,0,none⟩) (Xb vs i).keys.length (Xb vs i).keys.length:=by
 unfold Qi
 rw[if_neg (by omega),if_neg (by omega),if_neg (by omega),if_pos (by omega),show (i *5+3)/5=i by omega]
theorem Xeq (vs:List VN) (KB KI:Nat->Nat) (i:Nat):Qi vs KB KI (i *5+4)= .slice (some ⟨KI i,0,none⟩) (Xb vs i).kids.length (Xb vs i).kids.length:=by
 unfold Qi
 rw[if_neg (by omega),if_neg (by omega),if_neg (by omega),if_neg (by omega),show (i *5+4)/5=i by omega]
def Jg (vs:List VN) (KB KI:Nat->Nat) (z:Nat->Value) (k j:Nat):Value:=if j<k *5 then Qi vs KB KI j else z j
theorem Xm1 {vs:List VN} {KB KI:Nat->Nat} {k bk bi j:Nat} (h:j<k *5):Qi vs (fun i=>if i=k then bk else KB i) (fun i=>if i=k then bi else KI i) j=Qi vs KB KI j:=by
 unfold Qi
 simp only[if_neg (show ¬j/5=k by omega)]
theorem Xlw {w:World} {b t m k bk bi:Nat} {vs:List VN} {KB KI:Nat->Nat} {z:Nat->Value} (h:w.rowIs b t m (Jg vs KB KI z k)):
  (((((w.setCell ⟨b, k * 5, none⟩ (.int .i64 (Xb vs k).kind)).setCell ⟨b, k * 5 + 1, none⟩ (.int .i64 (Xb vs k).n)).setCell ⟨b, k * 5 + 2, none⟩ (.string (Xb vs k).s)).setCell ⟨b, k * 5 + 3, none⟩
   (.slice (some ⟨bk,0,none⟩) (Xb vs k).keys.length (Xb vs k).keys.length)).setCell ⟨b,k *5+4,none⟩ (.slice (some ⟨bi,0,none⟩) (Xb vs k).kids.length (Xb vs k).kids.length)).rowIs b t m
   (Jg vs (fun i=>if i=k then bk else KB i) (fun i=>if i=k then bi else KI i) z (k+1)):=by
 refine (((((h.set (k *5) _).set (k *5+1) _).set (k *5+2) _).set (k *5+3) _).set (k *5+4) _).congr fun j _=> ?_
 by_cases e4:j=k *5+4
 ·subst e4
  rw[if_pos rfl,Jg,if_pos (by omega),Xeq,if_pos rfl]
 rw[if_neg e4]
 by_cases e3:j=k *5+3
 ·subst e3
  rw[if_pos rfl,Jg,if_pos (by omega),Xep,if_pos rfl]
 rw[if_neg e3]
 by_cases e2:j=k *5+2
 ·subst e2
  rw[if_pos rfl,Jg,if_pos (by omega),Xkp]
 rw[if_neg e2]
 by_cases e1:j=k *5+1
 ·subst e1
  rw[if_pos rfl,Jg,if_pos (by omega),Xko]
 rw[if_neg e1]
 by_cases e0:j=k *5
 ·subst e0
  rw[if_pos rfl,Jg,if_pos (by omega),Xkn]
 rw[if_neg e0]
 unfold Jg
 by_cases hj:j<k *5
 ·rw[if_pos hj,if_pos (by omega),Xm1 hj]
 ·rw[if_neg hj,if_neg (by omega)]
structure OwnTo (w:World) (b:Nat) (vs:List VN) (KB KI:Nat->Nat) (k:Nat):Prop where
 lo:∀i,i<k->b<KB i/\KB i<KI i
 rk:∀i,i<k->w.rowIs (KB i) 9 (Xb vs i).keys.length (fun j=> .string (Xf (Xb vs i).keys j))
 ri:∀i,i<k->w.rowIs (KI i) 2 (Xb vs i).kids.length (fun j=> .int .i64 (Xj (Xb vs i).kids j))
 mono:∀i j,i<j->j<k->KI i<KB j
structure OwnAt (w:World) (b:Nat) (vs:List VN) (KB KI:Nat->Nat):Prop where
 row:w.rowIs b 75 (vs.length *5) (Qi vs KB KI)
 to:OwnTo w b vs KB KI vs.length
theorem OwnTo.below {w w':World} {b k:Nat} {vs:List VN} {KB KI:Nat->Nat} (h:OwnTo w b vs KB KI k) (hb:Below w.heap.size w w'):OwnTo w' b vs KB KI k:=
 ⟨h.lo,fun i hi=>Y4 (h.rk i hi) hb (h.rk i hi).lt,fun i hi=>Y4 (h.ri i hi) hb (h.ri i hi).lt,h.mono⟩
theorem OwnAt.below {w w':World} {b:Nat} {vs:List VN} {KB KI:Nat->Nat} (h:OwnAt w b vs KB KI) (hb:Below w.heap.size w w'):OwnAt w' b vs KB KI:=
 ⟨Y4 h.row hb h.row.lt,h.to.below hb⟩
theorem OwnTo.set {w:World} {b k o:Nat} {v:Value} {vs:List VN} {KB KI:Nat->Nat} (h:OwnTo w b vs KB KI k):OwnTo (w.setCell ⟨b,o,none⟩ v) b vs KB KI k:=
 ⟨h.lo,fun i hi=>(h.rk i hi).setOther (by have:=h.lo i hi;simp;omega) _,fun i hi=>(h.ri i hi).setOther (by have:=h.lo i hi;simp;omega) _,h.mono⟩
theorem OwnTo.step {w:World} {b k bk bi:Nat} {vs:List VN} {KB KI:Nat->Nat} (h:OwnTo w b vs KB KI k) (h1:b<bk) (h2:bk<bi) (h3:∀i,i<k->KI i<bk)
  (r1:w.rowIs bk 9 (Xb vs k).keys.length (fun j=> .string (Xf (Xb vs k).keys j))) (r2:w.rowIs bi 2 (Xb vs k).kids.length (fun j=> .int .i64 (Xj (Xb vs k).kids j))):
  OwnTo w b vs (fun i=>if i=k then bk else KB i) (fun i=>if i=k then bi else KI i) (k+1):=by
 refine ⟨fun i hi=> ?_,fun i hi=> ?_,fun i hi=> ?_,fun i j hij hj=> ?_⟩
 ·by_cases e:i=k
  ·simp only[if_pos e];exact ⟨h1,h2⟩
  ·simp only[if_neg e];exact h.lo i (by omega)
 ·by_cases e:i=k
  ·subst e;simp only[if_true];exact r1
  ·simp only[if_neg e];exact h.rk i (by omega)
 ·by_cases e:i=k
  ·subst e;simp only[if_true];exact r2
  ·simp only[if_neg e];exact h.ri i (by omega)
 ·simp only[if_neg (show ¬i=k by omega)]
  by_cases e:j=k
  ·simp only[if_pos e];exact h3 i (by omega)
  ·simp only[if_neg e];exact h.mono i j hij (by omega)
theorem Xr2 {w:World} {b:Nat} {l:List ByteArray} (h:w.rowIs b 9 l.length (fun j=> .string (Xf l j))) (h1:l.length<=8796093022208) (h2:∀i,i<l.length->(Xf l i).size<=140737488355328) (B:Nat) (hB:b<B):
  StrsAt B w (.slice (some ⟨b,0,none⟩) l.length l.length) l:=
 ⟨h1,h2,_,_,rfl,fun _=>⟨b,0,rfl,hB,fun i hi=>by rw[Nat.zero_add];exact h.cell hi⟩⟩
theorem Xr3 {w:World} {b:Nat} {l:List Int} (h:w.rowIs b 2 l.length (fun j=> .int .i64 (Xj l j))) (h1:l.length<=17592186044416) (h2:∀i,i<l.length->-9223372036854775808<=Xj l i/\Xj l i<=9223372036854775807) (B:Nat) (hB:b<B):
  IntsAt B w (.slice (some ⟨b,0,none⟩) l.length l.length) l:=
 ⟨h1,h2,_,_,rfl,fun _=>⟨b,0,rfl,hB,fun i hi=>by rw[Nat.zero_add];exact h.cell hi⟩⟩
theorem OwnAt.nodes {w:World} {b:Nat} {vs:List VN} {KB KI:Nat->Nat} (h:OwnAt w b vs KB KI) (hn:vs.length<=1759218604416) (hf:∀i,i<vs.length->Fits (Xb vs i)):
  NodesAt w.heap.size w (.slice (some ⟨b,0,none⟩) vs.length vs.length) vs:=by
 refine ⟨hn,_,_,rfl,fun _=>⟨b,0,rfl,h.row.lt,fun i hi=>⟨.slice (some ⟨KB i,0,none⟩) (Xb vs i).keys.length (Xb vs i).keys.length, .slice (some ⟨KI i,0,none⟩) (Xb vs i).kids.length (Xb vs i).kids.length, ?_⟩⟩⟩
 have f:=hf i hi
 rw[Nat.zero_add]
 refine ⟨?_, ?_, ?_, ?_, ?_,⟨Xr2 (h.to.rk i hi) f.keysN f.keysS _ (h.to.rk i hi).lt,Xr3 (h.to.ri i hi) f.kidsN f.kidsB _ (h.to.ri i hi).lt,f.size,f.klo,f.khi,f.nlo,f.nhi⟩⟩
 ·rw[h.row.cell (by omega),Xkn]
 ·rw[h.row.cell (by omega),Xko]
 ·rw[h.row.cell (by omega),Xkp]
 ·rw[h.row.cell (by omega),Xep]
 ·rw[h.row.cell (by omega),Xeq]
theorem Vs (B:Nat) (v:Value) (vs:List VN) (w:World) (h:NodesAt B w v vs) (hB:B<=w.heap.size):
  Calls Tryz.prog 14 #[v] w fun e w'=>∃KB KI:Nat->Nat,e= .returned (.slice (some ⟨w.heap.size,0,none⟩) vs.length vs.length)/\
   OwnAt w' w.heap.size vs KB KI/\Below w.heap.size w w':=by
 obtain ⟨S,a,bf,rfl,p⟩:=h
 have J:=Xjm vs.length (by omega)
 go_enter Tryz.func14,Tryz.ntmps14
 go_wp2_with fail
 clear J
 obtain ⟨z,T⟩:∃z:Nat->Value,∀i,i<(Vr vs.length).size->(Vr vs.length)[i]? =some (z i):=⟨fun i=>((Vr vs.length)[i]?).getD undef,fun i hi=>by simp[hi]⟩
 have q:=World.rowIs_alloc w _ 75 z T
 rw[Xjl] at q
 have C:(w.alloc (.cells (Vr vs.length) 75)).rowIs w.heap.size 75 (vs.length *5) (Jg vs (fun _=>0) (fun _=>0) z 0):=q.congr fun i _=>by simp[Jg]
 have D:Below w.heap.size w (w.alloc (.cells (Vr vs.length) 75)):=(Below.refl _ _).alloc (Nat.le_refl _) _
 clear T q
 go_loopw [4] (fun i wr=>∃(k:Nat) (KB KI:Nat->Nat),k<=vs.length/\i= .int .i64 k/\wr.rowIs w.heap.size 75 (vs.length *5) (Jg vs KB KI z k)/\OwnTo wr w.heap.size vs KB KI k/\Below w.heap.size w wr) (fun i _=>vs.length-(intOf i).toNat)
 case atStart=>exact ⟨0,_,_,Nat.zero_le _,rfl,C,⟨fun i hi=>by omega,fun i hi=>by omega,fun i hi=>by omega,fun i j hij hj=>by omega⟩,D⟩
 case round=>
  obtain ⟨k,KB,KI,hk,rfl,f,g,l⟩:=hrel
  clear C D
  by_cases hlt:k<vs.length
  ·obtain ⟨b,o,rfl,L,V⟩:=p (by omega)
   obtain ⟨ka,ki,X⟩:=V k hlt
   have d:=X.below (l.mono hB) L
   have c0:=d.c0
   have c1:=d.c1
   have c2:=d.c2
   have c3:=d.c3
   have c4:=d.c4
   have M:=d.inn
   have s:=l.size
   have F:=f.lt
   clear V p X d
   go_wp2_with fail
   refine (Xqn B (Xb vs k) ka ki _ M (by omega)).mono ?_
   rintro e w1 ⟨bk,bi,rfl,bg,P,Y,Z,t⟩
   have c:=Y4 f t F
   have ba:=c.cell (i:=k *5) (by omega)
   have bb:=c.cell (i:=k *5+1) (by omega)
   have bc:=c.cell (i:=k *5+2) (by omega)
   have bd:=c.cell (i:=k *5+3) (by omega)
   have be:=c.cell (i:=k *5+4) (by omega)
   have bh:=c.frozen
   have G:=Xlw (bk:=bk) (bi:=bi) c
   have R:=(g.below t).step (bk:=bk) (bi:=bi) (by omega) P (fun i hi=>by have:=(g.ri i hi).lt;omega) Y Z
   have y:Below w.heap.size w w1:=l.trans (t.mono s)
   clear Y Z g f
   go_wp2_with fail
   go_roundw
   case rel=>
    refine ⟨k+1,_,_,by omega,by go_num,G,R.set.set.set.set.set, ?_⟩
    refine Below.setCell (Below.setCell (Below.setCell (Below.setCell (Below.setCell y ?_ _) ?_ _) ?_ _) ?_ _) ?_ _<;>simp
   case measure=>simp[intOf];omega
  ·obtain rfl:k=vs.length:=by omega
   go_wp2_with fail
   go_ret
   exact ⟨KB,KI,rfl,⟨f.congr fun i hi=>by simp[Jg,hi],g⟩,l⟩
end Go.Proofs.YtdjddneidbddpaaGreatDoor
