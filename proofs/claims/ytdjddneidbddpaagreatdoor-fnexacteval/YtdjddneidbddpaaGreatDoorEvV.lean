import Derived.Test.YtdjddneidbddpaaGreatDoorEvY
import Derived.Test.YtdjddneidbddpaaGreatDoorClnV
import Derived.Deep.RegionHeld3
namespace Go.Proofs.YtdjddneidbddpaaGreatDoor
set_option linter.unusedSectionVars false
set_option maxRecDepth 100000
set_option maxHeartbeats 6400000
open Go.RowKit
set_option linter.unusedSimpArgs false
set_option linter.unusedVariables false
theorem Xrs {w:World} {it:Value} {l:List (List VN)} (h:ItemsRep w it l):∃V,ValsAt w it l.length V/\∀j,j<l.length->Rep w (Xn l j) (V j):=by
 obtain ⟨_,a,c,rfl,g⟩:=h
 rcases Nat.eq_zero_or_pos l.length with e|e
 ·exact ⟨fun _=>undef,⟨a,c,rfl,fun hp=>absurd hp (by omega),fun j hj=>absurd hj (by omega)⟩,fun j hj=>absurd hj (by omega)⟩
 ·obtain ⟨b,rfl,f⟩:=g e
  refine ⟨fun j=>(w.cell? ⟨b,j,none⟩).getD undef,⟨_,c,rfl,fun _=>⟨b,rfl, ?_,fun j hj=> ?_⟩,fun j hj=> ?_⟩,fun j hj=> ?_⟩
  ·obtain ⟨t,y,d,_⟩:=f 0 e;exact X7 d
  ·obtain ⟨t,y,d,_⟩:=f j hj;show w.cell? ⟨b,j,none⟩=some ((w.cell? ⟨b,j,none⟩).getD undef);rw[d];rfl
  ·obtain ⟨t,y,d,_⟩:=f j hj;exact ⟨t,y,by show (w.cell? ⟨b,j,none⟩).getD undef=_;rw[d];rfl⟩
  ·obtain ⟨t,y,d,o⟩:=f j hj
   show Rep w (Xn l j) ((w.cell? ⟨b,j,none⟩).getD undef)
   rw[d];exact o
theorem Xyv {base:Nat} {w:World} {sv:Value} {n:Nat} {xs:List Value} {l:List (List VN)} (h:w.ownsRow base 52 1 sv n xs) (hn:n=l.length) (h0:l.length<=100000) (hr:∀j,j<l.length->Rep w (Xn l j) (xs.getD j undef)):ItemsRep w sv l:=by
 subst hn
 have d:xs.length=l.length:=by simpa using h.1
 refine ⟨h0, ?_⟩
 rcases h.2 with ⟨rfl,e⟩|⟨g,cap,cur,rfl,_,hh,hnc,hcm,hcs,htk⟩
 ·exact ⟨none,0,by rw[e],fun hp=>absurd hp (by omega)⟩
 ·refine ⟨_,cap,rfl,fun hp=>⟨g,rfl,fun j hj=> ?_⟩⟩
  have b:=hr j hj
  obtain ⟨t,y,e⟩:=b.iface
  refine ⟨t,y, ?_,by rw[<-e];exact b⟩
  rw[Xw hh]
  rw[List.getD_eq_getElem?_getD,List.getElem?_eq_getElem (show j<xs.length by omega)] at e
  have c:xs[j]? =some (Value.iface t y):=by rw[List.getElem?_eq_getElem (show j<xs.length by omega)];exact congrArg some e
  rw[<-htk,List.getElem?_take,if_pos (by omega)] at c
  simpa using c
theorem X1x {l:List Int} {k:Nat} (h:k<l.length):l.drop k=Xj l k::l.drop (k+1):=by
 rw[List.drop_eq_getElem_cons h,Y8 h]
theorem X1y {fs:List FN} (hok:okF fs=true) (d:Nat) {h:X6} (hh:∀ns st,okB ns=true->(h ns st).2.1<=st.1) (names:List ByteArray) {v:List VN} (hv:okB v=true):∀(ks:List Int) (done:List (List VN)) (st:Xs),(Z3 (Xh fs d) names v h ks done st).2.1<=st.1:=by
 intro ks
 induction ks with
 |nil=>intro done st;exact Xhn hh Xdh st
 |cons k ks ih=>intro done st;exact Xbe hok d (fun ns st _=>ih _ st) k hv st
theorem Xsv (w:World) (y:Value) (T:TypeId):∀(j:Nat) (u:Value),[y][j]? =some u->(w.alloc (.cells #[y] T)).cell? ((⟨w.heap.size,0,none⟩:Addr).add j)=some u:=by
 intro j u b
 match j,b with
 |0,b=>simp at b;subst b;simp[Addr.add]
 |j+1,b=>simp at b
theorem Xfp {w w3 w4:World} {o:Obj} {r:Value} {n base:Nat} {xs:List Value} {T:TypeId} (hb:Below w.heap.size w w3) (ho:w3.ownsRow base T 1 r n xs) (hbase:w.heap.size<=base) (hg:(w3.alloc o).grownBy w4 r.ownBlock):Below w.heap.size w w4:=
 (hb.alloc hb.size o).grown hg (by have:=hb.size;simp;omega) (fun k hk=>Nat.le_trans hbase (ho.lt k hk).1)
theorem J7 {w w3 w4:World} {r:Value} {n base:Nat} {xs:List Value} {T:TypeId} (hb:Below w.heap.size w w3) (ho:w3.ownsRow base T 1 r n xs) (hbase:w.heap.size<=base) (hg:w3.grownBy w4 r.ownBlock):Below w.heap.size w w4:=
 hb.grown hg hb.size (fun k hk=>Nat.le_trans hbase (ho.lt k hk).1)
theorem X1z {w w3:World} (y:Value) (T:TypeId) (hb:Below (w.alloc (.cells #[y] T)).drew.heap.size (w.alloc (.cells #[y] T)).drew w3):∀(j:Nat) (u:Value),[y][j]? =some u->w3.cell? ((⟨w.heap.size,0,none⟩:Addr).add j)=some u:=by
 intro j u b
 match j,b with
 |0,b=>
  simp at b;subst b
  have c:(w.alloc (.cells #[y] T)).drew.cell? ⟨w.heap.size,0,none⟩=some y:=by simp
  exact (Xc hb (by simp)).trans c
 |j+1,b=>simp at b
def Xfq (B Z E O D:Nat) (fv:Value) (fs:List FN) (d:Nat) (x:FN) (m:Nat):Prop:=∀(done:List (List VN)) (ch v kc kn ki:Value) (ns:List VN) (H:FuncId) (caps:Array Value) (h:X6) (st:Xs) (w:World),done.length+m=x.kids.length->FNodeIn B w x kc kn ki->HandOk B Z E O D fv fs w H caps h->St B Z E O fv fs st w->Rep w ns v->ItemsRep w ch done->st.1<=D->
 Calls Tryz.prog 113 #[.pointer (some ⟨E,0,none⟩),Ym x kc kn ki,v,ch,X9 H caps] w (Y6 B Z E O fv fs (Z3 (Xh fs d) x.names ns h (x.kids.drop done.length) done st) w)
theorem X10 {B Z E O D:Nat} {fv:Value} {fs:List FN} {d:Nat} (hok:okF fs=true) {x:FN} {m:Nat} (ih:Xfq B Z E O D fv fs d x m) (h5:x.kids.length<=5) {done:List (List VN)} (hm:done.length+(m+1)=x.kids.length) {kc kn ki ch:Value} {H:FuncId} {caps:Array Value} {h:X6} {w0:World} (hh:HandOk B Z E O D fv fs w0 H caps h) (hBE:B<=E) (hBZ:B<=Z)
  {vs:List VN} {v0:Value} (hv0:Rep w0 vs v0) (hch:ItemsRep w0 ch done) (hrd:∀w,FrH Z E O w0 w->Reads2 w0 w)
  {eb nb vb cb hb:Nat} (e1:eb≠E/\eb≠O) (e2:nb≠E/\nb≠O) (e4:vb≠E/\vb≠O) (e5:cb≠E/\cb≠O) (e3:hb≠E/\hb≠O) (q1:w0.cell? ⟨eb,0,none⟩=some (.pointer (some ⟨E,0,none⟩))) (q2:NodeBox B w0 nb x kc kn ki) (q4:w0.cell? ⟨vb,0,none⟩=some v0) (q5:w0.cell? ⟨cb,0,none⟩=some ch) (q3:w0.cell? ⟨hb,0,none⟩=some (X9 H caps)):
  HandOk B Z E O D fv fs w0 143 #[.pointer (some ⟨eb,0,none⟩), .pointer (some ⟨nb,0,none⟩), .pointer (some ⟨vb,0,none⟩), .pointer (some ⟨cb,0,none⟩), .pointer (some ⟨hb,0,none⟩)] (fun y=>Z3 (Xh fs d) x.names vs h (x.kids.drop (done.length+1)) (done++ [y])):=by
 refine ⟨fun x w=>by kernel_rfl,fun ns st hv=>X1y hok d hh.le _ hv0.1 _ _ st,fun w hf st y ns hst1 hst hy=> ?_⟩
 show Calls Tryz.prog 143 #[y, .pointer (some ⟨eb,0,none⟩), .pointer (some ⟨nb,0,none⟩), .pointer (some ⟨vb,0,none⟩), .pointer (some ⟨cb,0,none⟩), .pointer (some ⟨hb,0,none⟩)] w _
 show Calls _ _ _ _ (Y6 B Z E O fv fs (Z3 (Xh fs d) x.names vs h (x.kids.drop (done.length+1)) (done++ [ns]) st) w)
 obtain ⟨i0,C,F,G,J⟩:=Xgs Xnx
 have L:=hv0.reads (hrd w hf)
 have q:=hch.reads (hrd w hf)
 have c:=q2.on hf e2.1 e2.2 hBE hBZ
 have bd:=hst.hZ
 -- the call that goes on, from any world with the longer row
 have P:Hid (∀W ch',Below w.heap.size w W->ItemsRep W ch' (done++ [ns])->Calls Tryz.prog 113 #[.pointer (some ⟨E,0,none⟩),Ym x kc kn ki,v0,ch',X9 H caps] W fun e w'=>(∃v,e= .returned v/\Km w' (Z3 (Xh fs d) x.names vs h (x.kids.drop (done.length+1)) (done++ [ns]) st).1 v)/\FrH Z E O w w'/\St B Z E O fv fs (Z3 (Xh fs d) x.names vs h (x.kids.drop (done.length+1)) (done++ [ns]) st).2 w'):=fun W ch' hb hit=>by
  have S:FrH Z E O w W:= .of_below hb bd
  have:=ih (done++ [ns]) ch' v0 kc kn ki vs H caps h st W (by simp;omega) (c.inn.below (hb.mono (by omega))) ((hh.on hf).on S) (hst.below hb) (L.below hb) hit hst1
  rw[show (done++ [ns]).length=done.length+1 by simp] at this
  exact this.mono fun e w' k=>⟨k.1,S.trans k.2.1,k.2.2⟩
 obtain ⟨V,T,be⟩:=Xrs q
 have X:Hid (∀W,Below w.heap.size w W->Calls Tryz.prog 144 #[ch] W fun e w'=>∃r,e= .returned r/\w'.ownsRow W.heap.size 52 1 r done.length ((List.range done.length).map V)/\Below W.heap.size W w'):=fun W hb=>Xft ch done.length V W (T.below hb) (by omega)
 have s:Hid (∀base W sv,Below w.heap.size w W->W.ownsRow base 52 1 sv (done.length+1) ((List.range done.length).map V++ [y])->ItemsRep W sv (done++ [ns])):=fun base W sv hb ho=>Xyv ho (by simp) (by simp;omega) (Xod (by simp) (fun j hj=>by
  have e:((List.range done.length).map V).getD j undef=V j:=by rw[List.getD_eq_getElem?_getD,List.getElem?_map,List.getElem?_range hj];rfl
  rw[e];exact (be j hj).below hb) (hy.below hb))
 obtain ⟨M,hM⟩:∃M,done.length=M:=⟨_,rfl⟩
 obtain ⟨_,aD,cD,eD,_⟩:=q
 rw[hM] at X s eD
 subst eD
 have k1:=hf.cell eb 0 _ e1.1 e1.2 (by intro e;cases e) q1
 have k3:=hf.cell hb 0 _ e3.1 e3.2 (by intro e;cases e) q3
 have k7:=hf.cell cb 0 _ e5.1 e5.2 (by intro e;cases e) q5
 obtain ⟨t0,y0,rfl⟩:=hv0.iface
 have k6:=hf.cell vb 0 _ e4.1 e4.2 (by intro e;cases e) q4
 have n0:=c.c0
 have n1:=c.c1
 have n2:=c.c2
 have n3:=c.c3
 have n4:=c.c4
 have n5:=c.c5
 obtain ⟨_,aC,cC,rfl,_⟩:=c.inn.cst
 obtain ⟨_,_,aK,cK,rfl,_⟩:=c.inn.names
 obtain ⟨_,_,aI,cI,rfl,_⟩:=c.inn.kids
 obtain ⟨ty,y1,rfl⟩:=hy.iface
 obtain ⟨R,hR⟩:∃R,Z3 (Xh fs d) x.names vs h (x.kids.drop (done.length+1)) (done++ [ns]) st=R:=⟨_,rfl⟩
 rw[hR] at P|-
 have l1:=X7 k1
 have l3:=X7 k3
 have l6:=X7 k6
 have l7:=X7 k7
 have l:=X7 n0
 have bf:Hid (∀Y,FrH Z E O w Y->(Y.cell? ⟨eb,0,none⟩=some (.pointer (some ⟨E,0,none⟩))/\Y.cell? ⟨vb,0,none⟩=some (.iface t0 y0)/\Y.cell? ⟨cb,0,none⟩=some (.slice aD M cD)/\Y.cell? ⟨hb,0,none⟩=some (X9 H caps)/\Y.cell? ⟨nb,0,none⟩=some (.int .i64 x.kind)/\Y.cell? ⟨nb,1,none⟩=some (.string x.name)/\Y.cell? ⟨nb,2,none⟩=some (.int .i64 x.place)/\Y.cell? ⟨nb,3,none⟩=some (.slice aC x.cst.length cC)/\Y.cell? ⟨nb,4,none⟩=some (.slice aK x.names.length cK)/\Y.cell? ⟨nb,5,none⟩=some (.slice aI x.kids.length cI))):=fun Y hY=>⟨hY.cell _ _ _ e1.1 e1.2 (by intro e;cases e) k1,hY.cell _ _ _ e4.1 e4.2 (by intro e;cases e) k6,hY.cell _ _ _ e5.1 e5.2 (by intro e;cases e) k7,hY.cell _ _ _ e3.1 e3.2 (by intro e;cases e) k3,hY.cell _ _ _ e2.1 e2.2 (by intro e;cases e) n0,hY.cell _ _ _ e2.1 e2.2 (by intro e;cases e) n1,hY.cell _ _ _ e2.1 e2.2 (by intro e;cases e) n2,hY.cell _ _ _ e2.1 e2.2 (by intro e;cases e) n3,hY.cell _ _ _ e2.1 e2.2 (by intro e;cases e) n4,hY.cell _ _ _ e2.1 e2.2 (by intro e;cases e) n5⟩
 go_enter Tryz.func143,Tryz.ntmps143
 go_wp2_with fail
 have z:Hid (∀Y,Below w.heap.size w Y->(Y.cell? ⟨eb,0,none⟩=some (.pointer (some ⟨E,0,none⟩))/\Y.cell? ⟨vb,0,none⟩=some (.iface t0 y0)/\Y.cell? ⟨cb,0,none⟩=some (.slice aD M cD)/\Y.cell? ⟨hb,0,none⟩=some (X9 H caps)/\Y.cell? ⟨nb,0,none⟩=some (.int .i64 x.kind)/\Y.cell? ⟨nb,1,none⟩=some (.string x.name)/\Y.cell? ⟨nb,2,none⟩=some (.int .i64 x.place)/\Y.cell? ⟨nb,3,none⟩=some (.slice aC x.cst.length cC)/\Y.cell? ⟨nb,4,none⟩=some (.slice aK x.names.length cK)/\Y.cell? ⟨nb,5,none⟩=some (.slice aI x.kids.length cI))):=fun Y hY=>⟨(Xc hY l1).trans k1,(Xc hY l6).trans k6,(Xc hY l7).trans k7,(Xc hY l3).trans k3,(Xc hY l).trans n0,(Xc hY l).trans n1,(Xc hY l).trans n2,(Xc hY l).trans n3,(Xc hY l).trans n4,(Xc hY l).trans n5⟩
 go_region_held3 (fun w'=>w'.cell? ⟨eb,0,none⟩=some (.pointer (some ⟨E,0,none⟩))/\w'.cell? ⟨vb,0,none⟩=some (.iface t0 y0)/\w'.cell? ⟨cb,0,none⟩=some (.slice aD M cD)/\w'.cell? ⟨hb,0,none⟩=some (X9 H caps)/\w'.cell? ⟨nb,0,none⟩=some (.int .i64 x.kind)/\w'.cell? ⟨nb,1,none⟩=some (.string x.name)/\w'.cell? ⟨nb,2,none⟩=some (.int .i64 x.place)/\w'.cell? ⟨nb,3,none⟩=some (.slice aC x.cst.length cC)/\w'.cell? ⟨nb,4,none⟩=some (.slice aK x.names.length cK)/\w'.cell? ⟨nb,5,none⟩=some (.slice aI x.kids.length cI))
  (first|exact bf.out _ bc|exact z.out _ (Below.drew (Below.refl _ _))|exact z.out _ p|exact z.out _ b|exact z.out _ (p.alloc p.size _)|exact z.out _ ((Below.refl w.heap.size w).alloc (Nat.le_refl _) _).drew|exact z.out _ ((Below.drew (Below.refl w.heap.size w)).alloc (Nat.le_refl _) _))
  (first
   |(go_at_call 144;refine (X.out _ (by first|exact Below.drew (Below.refl w.heap.size w)|exact (((Below.refl w.heap.size w).alloc (Nat.le_refl _) _).drew)|exact ((Below.drew (Below.refl w.heap.size w)).alloc (Nat.le_refl _) _))).mono ?_;rintro e w3 ⟨r,rfl,g,o⟩;have p:Below w.heap.size w w3:=(by first|exact (Below.drew (Below.refl w.heap.size w)).trans o|exact ((((Below.refl w.heap.size w).alloc (Nat.le_refl _) _).drew).trans (o.mono (by simp)))|exact ((Below.drew (Below.refl w.heap.size w)).alloc (Nat.le_refl _) _).trans (o.mono (by simp)));try (have ba:=X1z (.iface ty y1) 52 o))
   |(refine Zk (by rfl) _ _ 58 (by rfl) _ 52 i0 .nilIface 1 16 Tryz.underlying58 C F G J rfl (by decide) _ M ((List.range M).map V) rfl (g.alloc _) (some ⟨w3.heap.size, 0, none⟩) 1 1 [.iface ty y1] (by rfl) (by rfl) (fun _ => ⟨_, rfl, Xsv w3 (.iface ty y1) 52⟩) (by intro u hu; simp at hu; subst hu; rfl) (by unfold maxLen; omega) (by omega) (by have := o.size; simp at this |-; omega) ?_; intro v4 w4 f t bb
     obtain ⟨a4,c4,e4⟩:=Xg f
     subst e4
     have b:Below w.heap.size w w4:=Xfp p g (by simp) t
     have m3:=(Xc b l3).trans k3
     have m1:=(Xc b l1).trans k1
     have m6:=(Xc b l6).trans k6
     have bl:=(Xc b l).trans n0
     have bm:=(Xc b l).trans n1
     have bn:=(Xc b l).trans n2
     have bo:=(Xc b l).trans n3
     have bp:=(Xc b l).trans n4
     have bg:=(Xc b l).trans n5)
   |(refine Zk (by rfl) _ _ 58 (by rfl) _ 52 i0 .nilIface 1 16 Tryz.underlying58 C F G J rfl (by decide) _ M ((List.range M).map V) rfl g (some ⟨w.heap.size, 0, none⟩) 1 1 [.iface ty y1] (by rfl) (by rfl) (fun _ => ⟨_, rfl, ba⟩) (by intro u hu; simp at hu; subst hu; rfl) (by unfold maxLen; omega) (by omega) (by have := o.size; simp at this |-; omega) ?_; intro v4 w4 f t bb
     obtain ⟨a4,c4,e4⟩:=Xg f
     subst e4
     have b:Below w.heap.size w w4:=J7 p g (by simp) t
     have bg:=(Xc b l).trans n5)
   |(go_at_call 113;refine (P.out w4 _ b (s.out _ w4 _ b f)).mono ?_;rintro e w5 ⟨⟨ev,rfl,bh⟩,bc,bi⟩))
 all_goals
  have HF:=Xa bc
  have bj:=Xa bi
  have bk:=Xa bh
  go_wp2_with fail
  go_ret
  exact ⟨⟨_,rfl,bk.out⟩,HF.out,bj.out⟩
end Go.Proofs.YtdjddneidbddpaaGreatDoor
