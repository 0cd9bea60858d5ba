import Derived.Test.YtdjddneidbddpaaGreatDoorSeN
import Derived.Test.YtdjddneidbddpaaGreatDoorSeF
import Derived.Test.YtdjddneidbddpaaGreatDoorSPlsL
import Derived.Test.YtdjddneidbddpaaGreatDoorSPlsN
import Derived.Test.YtdjddneidbddpaaGreatDoorSSort
import Derived.Test.YtdjddneidbddpaaGreatDoorSeQ
import Derived.Test.YtdjddneidbddpaaGreatDoorEvY
import Derived.Test.YtdjddneidbddpaaGreatDoorSeM
import Derived.Test.YtdjddneidbddpaaGreatDoorSGot
namespace Go.Proofs.YtdjddneidbddpaaGreatDoor
set_option linter.unusedSectionVars false
set_option maxRecDepth 100000
set_option maxHeartbeats 6400000
open Go.RowKit
set_option linter.unusedSimpArgs false
set_option linter.unusedVariables false
theorem NR.sized {E:Nat} {w:World} {v:Value} {vs:List VN} (h:NR E w v vs):1<=vs.length/\vs.length<=80:=(Xm h.ok).1
theorem NR.below {E:Nat} {w w':World} {v:Value} {vs:List VN} (h:NR E w v vs) (hb:Below w.heap.size w w'):NR E w' v vs:=h.keep (Below.keepN hb)
theorem NR.but {E:Nat} {w w':World} {v:Value} {vs:List VN} (h:NR E w v vs) (hb:ButE E w w'):NR E w' v vs:=h.keep hb.keepN
theorem Xer {vs:List VN} (ok:okB vs=true):1<=(Xd vs).kind/\(Xd vs).kind<=6:=by
 have:=Ju ok
 omega
def Made1 (E:Nat) (r:Int×List VN) (w:World) (e:Ending) (w':World):Prop:=
 ∃u,e= .returned (.tuple #[u, .int .i64 r.1])/\(∃a n c,u= .slice a n c)/\(r.1=0->NR E w' u r.2)/\Below w.heap.size w w'
theorem Xes {E base:Nat} {w w':World} {c:Int} {ns:List VN} {e:Ending} {r:Value} {KV IV:Nat->Value} (he:e= .returned (.tuple #[r, .int .i64 c])) (hb:w.heap.size<=base) (hn:Nest base w' r ns KV IV) (hbl:Below w.heap.size w w') (hE:E<w.heap.size) (ok:c=0->okB ns=true):Made1 E (c,ns) w e w':=by
 obtain ⟨a,k,b⟩:=Xg hn.row
 exact ⟨r,he,⟨a,_,k,b⟩,fun hc=>NR.made hn (ok hc) (by omega),hbl⟩
theorem Xvx {E:Nat} {u v:Value} {us vs:List VN} {w:World} (hu:NR E w u us) (hv:NR E w v vs) (hE:E<w.heap.size):Calls Tryz.prog 131 #[u,v] w (Made1 E (Qg us vs,Zt us vs) w):=by
 have key:Calls Tryz.prog 131 #[u,v] w fun e c=>∃r b f g,e= .returned (.tuple #[r, .int .i64 (Qg us vs)])/\w.heap.size<=b/\Nest b c r (Zt us vs) f g/\Below w.heap.size w c:=by
  by_cases h5:(Xd us).kind=5/\(Xd vs).kind=5
  ·exact Xql w.heap.size _ _ us vs w hu.nodes hv.nodes (Nat.le_refl _) hu.ok hv.ok h5.1 h5.2
  ·by_cases h6:(Xd us).kind=6/\(Xd vs).kind=6
   ·exact Xtw w.heap.size _ _ us vs w hu.nodes hv.nodes (Nat.le_refl _) hu.ok hv.ok h6.1 h6.2
   ·exact Xrj w.heap.size _ _ us vs w hu.nodes hv.nodes (Nat.le_refl _) hu.ok hv.ok (by omega)
 refine key.mono ?_
 rintro e c ⟨r,b,f,g,j,l,o,d⟩
 exact Xes j l o d hE Xjv
theorem Xte {E:Nat} {u v:Value} {us vs:List VN} {w:World} (hu:NR E w u us) (hv:NR E w v vs) (hE:E<w.heap.size):Calls Tryz.prog 132 #[u,v] w (Made1 E (Vz us vs,Kg us vs) w):=by
 have key:Calls Tryz.prog 132 #[u,v] w fun e c=>∃r b f g,e= .returned (.tuple #[r, .int .i64 (Vz us vs)])/\w.heap.size<=b/\Nest b c r (Kg us vs) f g/\Below w.heap.size w c:=by
  by_cases h5:(Xd us).kind=5/\(Xd vs).kind=5
  ·exact Xps w.heap.size _ _ us vs w hu.nodes hv.nodes (Nat.le_refl _) hu.ok hv.ok h5.1 h5.2
  ·exact Xpp w.heap.size _ _ us vs w hu.nodes hv.nodes (Nat.le_refl _) hu.ok hv.ok h5
 refine key.mono ?_
 rintro e c ⟨r,b,f,g,j,l,o,d⟩
 exact Xes j l o d hE Xn2
theorem Xzk {E:Nat} {v:Value} {vs:List VN} {w:World} (hv:NR E w v vs) (hE:E<w.heap.size):Calls Tryz.prog 78 #[v] w (Made1 E (Xas vs,Gx vs) w):=by
 refine (Xoa w.heap.size v vs w hv.nodes (Nat.le_refl _) hv.ok).mono ?_
 rintro e o ⟨r,c,p,q,d,g,f,b⟩
 have j:Xas vs=Xij (Zm (Xd vs)):=by unfold Xas;rw[if_pos hv.ok]
 have l:Gx vs=Xmi (Zm (Xd vs)):=by unfold Gx;rw[if_pos hv.ok]
 rw[<-j] at d
 rw[<-l] at f
 exact Xes d g f b hE (Xwo hv.ok)
theorem Xzl {E:Nat} {u v:Value} {us vs:List VN} {w:World} (hu:NR E w u us) (hv:NR E w v vs):Calls Tryz.prog 130 #[u,v] w fun e w'=>e= .returned (.int .i64 (Y9 us vs))/\Below w.heap.size w w':=by
 rw[Xac hu.ok hv.ok]
 exact Xee w.heap.size u v us vs w ⟨hu.nodes,hv.nodes,(Xm hu.ok).2.1,(Xm hv.ok).2.1⟩ (Nat.le_refl _) hu.sized hv.sized
def Xh4 (E:Nat) (ns:List VN) (w:World) (e:Ending) (w':World):Prop:=∃u,e= .returned u/\(∃a c,u= .slice a ns.length c)/\NR E w' u ns/\Below w.heap.size w w'
theorem Xkq (E:Nat) (b:Bool) (w:World) (hE:E<w.heap.size):Calls Tryz.prog 80 #[.bool b] w (Xh4 E (Q9 b) w):=by
 refine (Xw4 b w).mono ?_
 rintro e g ⟨c,d,f⟩
 exact ⟨_,c,⟨_,_,rfl⟩,NR.made d (Xf5 b) hE,f⟩
theorem Xad (E:Nat) (w:World) (hE:E<w.heap.size):Calls Tryz.prog 55 #[] w (Xh4 E Ja w):=by
 refine (Xw3 w).mono ?_
 rintro e f ⟨b,c,d⟩
 exact ⟨_,b,⟨_,_,rfl⟩,NR.made c Xba hE,d⟩
theorem Xb5 {E:Nat} {v:Value} {vs:List VN} {w:World} (hv:NR E w v vs):Calls Tryz.prog 77 #[v] w fun e w'=>e= .returned (.bool (Xu vs))/\Below w.heap.size w w':=Xve w.heap.size v vs w hv.nodes (Nat.le_refl _) hv.ok
theorem Uq {E base:Nat} {v:Value} {ns:List VN} {w:World} {KV IV:Nat->Value} (hn:Nest base w v ns KV IV) (hE:E<base) (hl:ns.length<=1759218604416) (hf:∀i,i<ns.length->Fits (Xb ns i)):Calls Tryz.prog 74 #[v] w (Made1 E (Yo ns) w):=by
 have f:=hn.nodes hl hf
 unfold Yo
 cases ok:okB ns
 ·rw[if_neg (by simp)]
  refine (Gk w.heap.size v ns w f (Nat.le_refl _) ok).mono ?_
  rintro e g ⟨d,b⟩
  exact ⟨_,d,⟨_,_,_,rfl⟩,fun h=>absurd h (by decide),b⟩
 ·rw[if_pos rfl]
  refine (Vm w.heap.size v ns w f (Nat.le_refl _) ok).mono ?_
  rintro e g ⟨d,b⟩
  obtain ⟨a,c,j⟩:=Xg hn.row
  exact ⟨_,d,⟨a,_,c,j⟩,fun _=>NR.made (hn.below b) ok hE,b⟩
theorem Xae {E base B:Nat} {w:World} {kv sv:Value} {xs:List Value} {keys:List ByteArray} {l:List (List VN)} (kind:Int) (h1:1<=kind) (h6:kind<=6) (hl:LR E base w sv xs l) (hm:l.length<=200) (hk:StrsAt B w kv keys) (hB:B<=w.heap.size) (hkn:keys.length<=200) (hks:∀i,i<keys.length->(Xf keys i).size<=140737488355328):
  Calls Tryz.prog 75 #[.int .i64 kind,kv,sv] w fun e w'=>∃r KV IV,e= .returned r/\Nest w.heap.size w' r (Yi kind keys (Xn l) l.length) KV IV/\Below w.heap.size w w'/\(Yi kind keys (Xn l) l.length).length<=16001/\∀i,i<(Yi kind keys (Xn l) l.length).length->Fits (Xb (Yi kind keys (Xn l) l.length) i):=by
 have b:=hl.oks
 have c:=Gc (L:=Xn l) (m:=l.length) hm b (fun i hi=>Uf (b i hi)) (kind:=kind) h1 h6 (keys:=keys) hkn hks
 have f:=Ve b l.length (Nat.le_refl _)
 have d:l.length *80<=16000:=by omega
 refine (Xa5 w.heap.size kind kv sv keys l.length (Xn l) w (hk.wide hB) (hl.rows (by omega)) (Nat.le_refl _) (by omega) (by omega) (by omega) (Xc1 b)).mono ?_
 rintro e w' ⟨r,KV,IV,g,j,o⟩
 exact ⟨r,KV,IV,g,j,o,c.1,fun i hi=>(c.2 i hi).1⟩
theorem Xtf {E:Nat} {v:Value} {ns:List VN} {w:World} (hv:NR E w v ns) (hE:E<w.heap.size):Calls Tryz.prog 72 #[v] w fun e w'=>∃sv xs,e= .returned sv/\LR E w.heap.size w' sv xs (Yn ns)/\Below w.heap.size w w':=by
 refine (Kn w.heap.size v ns w hv.nodes (Nat.le_refl _) hv.ok).mono ?_
 rintro e w' ⟨r,c,p,q,s,f,b,g⟩
 have d:(Yn ns).length=(Xe ns).length:=by simp[Yn]
 refine ⟨r,_,f,⟨by rw[d];exact b.row,hE,fun j hj=> ?_⟩,g⟩
 rw[d] at hj
 have l:((List.range (Xe ns).length).map c).getD j undef=c j:=by
  rw[List.getD_eq_getElem?_getD,List.getElem?_map,List.getElem?_range hj];rfl
 have o:Xn (Yn ns) j=PL ns j:=by
  unfold Xn Yn
  rw[List.getD_eq_getElem?_getD,List.getElem?_map,List.getElem?_range hj]
  rfl
 rw[l,o]
 exact NR.made (b.nest j hj) (Xf6 hv.ok hj) (Nat.lt_of_lt_of_le hE (b.low j (by omega)))


theorem Xpb {B E:Nat} {fv:Value} {fs:List FN} {fu:Nat} {c:Int} {w:World} (n:Int) (a:Option Addr) (l cp:Nat) (h:SE B E fv fs fu c w) (hc:c≠0):
  Calls Tryz.prog 35 #[.pointer (some ⟨E,0,none⟩), .int .i64 n, .slice a l cp] w fun e w'=>e= .returned (.slice none 0 0)/\w'=w:=by
 obtain ⟨_,_,f,_,g⟩:=h.cells
 clear h
 have b:(c !=0)=true:=by simpa using hc
 have d:(c==0)=false:=by simpa using hc
 clear hc
 go_enter Tryz.func35,Tryz.ntmps35
 go_wp2_with fail
 go_ret
 exact ⟨rfl,rfl⟩
theorem Xpc {B E M:Nat} {fv:Value} {fs:List FN} {w:World} {l:List (List VN)} (n:Int) (a:Option Addr) (k cp:Nat) (h:SE B E fv fs 0 0 w):
  Calls Tryz.prog 35 #[.pointer (some ⟨E,0,none⟩), .int .i64 n, .slice a k cp] w (RunAns B E M fv fs 4 l 0 w):=by
 have b:=Xa (h.set 4)
 have c:Hid (E<w.heap.size):=h.lt
 obtain ⟨_,c1,f,_,g⟩:=h.cells
 have d:w.cell? ⟨E,1,none⟩=some (.int .i64 0):=c1
 clear h c1
 go_enter Tryz.func35,Tryz.ntmps35
 go_wp2_with fail
 go_ret
 exact ⟨_,_,[],rfl,b.out.1,b.out.2,LR.nil c.out,fun e=>absurd e (by decide),Nat.zero_le _⟩
structure Pre (B E:Nat) (fv:Value) (fs:List FN) (j:Nat) (x:FN) (n:Nat) (w W1 W2 W3:World) (b0 o0 cap:Nat) (aC:Option Addr) (cC:Nat) (aK:Option Addr) (cK:Nat) (aI:Option Addr) (cI:Nat):Prop where
 hfv:fv= .slice (some ⟨b0,o0,none⟩) fs.length cap
 q0:w.cell? ⟨E,0,none⟩=some (.slice (some ⟨b0,o0,none⟩) fs.length cap)
 q1:w.cell? ⟨E,1,none⟩=some (.int .i64 ((j:Int)+1))
 q2:w.cell? ⟨E,2,none⟩=some (.int .i64 0)
 z1:w.frozen? ⟨E,1,none⟩=false
 e1:w.setCell ⟨E,1,none⟩ (.int .i64 (j:Int))=W1
 p0:W1.cell? ⟨E,0,none⟩=some (.slice (some ⟨b0,o0,none⟩) fs.length cap)
 s0:W1.cell? ⟨b0,o0+n *6,none⟩=some (.int .i64 x.kind)
 s1:W1.cell? ⟨b0,o0+n *6+1,none⟩=some (.string x.name)
 s2:W1.cell? ⟨b0,o0+n *6+2,none⟩=some (.int .i64 x.place)
 s3:W1.cell? ⟨b0,o0+n *6+3,none⟩=some (.slice aC x.cst.length cC)
 s4:W1.cell? ⟨b0,o0+n *6+4,none⟩=some (.slice aK x.names.length cK)
 s5:W1.cell? ⟨b0,o0+n *6+5,none⟩=some (.slice aI x.kids.length cI)
 e2:W1.alloc (.cells #[.int .i64 x.kind, .string x.name, .int .i64 x.place, .slice aC x.cst.length cC, .slice aK x.names.length cK, .slice aI x.kids.length cI] 84)=W2
 e3:W2.alloc (.cells #[] 25)=W3
 g1:W1.heap.size=w.heap.size
 g2:W2.heap.size=w.heap.size+1
 g3:W3.heap.size=w.heap.size+2
 se:SE B E fv fs j 0 W3
 but:ButE E w W2
 bu3:Below W2.heap.size W2 W3
 box:NodeBox B W2 w.heap.size x (.slice aC x.cst.length cC) (.slice aK x.names.length cK) (.slice aI x.kids.length cI)
 hE:E<w.heap.size
 hB:B<=E
theorem Qh {B E j n:Nat} {fv:Value} {fs:List FN} {x:FN} {w:World} (h:SE B E fv fs (j+1) 0 w) (hn:n<fs.length) (hx:Xo fs n=x):∃W1 W2 W3 b0 o0 cap aC cC aK cK aI cI,Pre B E fv fs j x n w W1 W2 W3 b0 o0 cap aC cC aK cK aI cI:=by
 have J:=h.lt
 have G:=h.hBE
 obtain ⟨L,a,cap,e,l⟩:=h.nodes
 obtain ⟨b0,o0,M,D,P⟩:=l (by omega)
 subst M
 obtain ⟨Y,Z,ki,f⟩:=P n hn
 rw[hx] at f
 obtain ⟨c0,c1,R,S,f2⟩:=h.cells
 obtain ⟨W1,o⟩:∃W1,w.setCell ⟨E,1,none⟩ (.int .i64 (j:Int))=W1:=⟨_,rfl⟩
 have d:=h.setFu j
 rw[o] at d
 have p:W1.heap.size=w.heap.size:=by rw[<-o];simp
 have b:=f.below (d.2.below G (by omega)) D
 obtain ⟨_,aC,cC,T,_⟩:=id b.inn.cst
 obtain ⟨_,_,aK,cK,V,_⟩:=id b.inn.names
 obtain ⟨_,_,aI,cI,X,_⟩:=id b.inn.kids
 subst T V X
 obtain ⟨W2,g⟩:∃W2,W1.alloc (.cells #[.int .i64 x.kind, .string x.name, .int .i64 x.place, .slice aC x.cst.length cC, .slice aK x.names.length cK, .slice aI x.kids.length cI] 84)=W2:=⟨_,rfl⟩
 obtain ⟨W3,q⟩:∃W3,W2.alloc (.cells #[] 25)=W3:=⟨_,rfl⟩
 have t:W2.heap.size=w.heap.size+1:=by rw[<-g,<-p];simp
 have F:W3.heap.size=w.heap.size+2:=by rw[<-q];simp[t]
 have s:Below W1.heap.size W1 W2:=by rw[<-g];exact (Below.refl _ _).alloc (Nat.le_refl _) _
 have y:Below W2.heap.size W2 W3:=by rw[<-q];exact (Below.refl _ _).alloc (Nat.le_refl _) _
 have c:W2.heap[w.heap.size]? =some (.cells #[.int .i64 x.kind, .string x.name, .int .i64 x.place, .slice aC x.cst.length cC, .slice aK x.names.length cK, .slice aI x.kids.length cI] 84 (0,0)):=by rw[<-g,<-p];exact heap_alloc_new W1 _
 have z:=d.1.below s
 have C:=z.below y
 exact ⟨W1,W2,W3,b0,o0,cap,aC,cC,aK,cK,aI,cI,⟨e,by rw[c0,e],by rw[c1];rfl,R,S,o,by have:=d.1.cells.1;rw[this,e],b.c0,b.c1,b.c2,b.c3,b.c4,b.c5,g,q,p,t,F,C,d.2.trans (.of_below s),y,
  ⟨Xw c 0,Xw c 1,Xw c 2,Xw c 3,Xw c 4,Xw c 5,b.inn.below (s.mono (by omega))⟩,J,G⟩⟩
theorem Qu {B E M:Nat} {fv:Value} {fs:List FN} {R:Int×Xs} {c:Int} {fu:Nat} {m:List (List VN)} {w w' W2:World} {e:Ending} {sv:Value} {xs:List Value} {base:Nat} (he:e= .returned sv) (hn:Now R Yh c fu m) (hs:SE B E fv fs fu c w') (h1:ButE E w W2) (h2:ButE E W2 w') (hl:LR E base w' sv xs m) (hb:w.heap.size<=base) (hE:E<w.heap.size) (hm:m.length<=M):RunAns B E M fv fs R.1 R.2.2 R.2.1 w e w':=by
 obtain ⟨b,d,f⟩:=hn.fin
 subst b d
 exact ⟨sv,xs,m,he,hs,h1.trans h2,hl.low hb hE,f,hm⟩
theorem Vf {B E M:Nat} {fv:Value} {fs:List FN} {R:Int×Xs} {c:Int} {fu:Nat} {m:List (List VN)} {w w' W2 W3:World} {e:Ending} (ha:Qv B E fv fs c m fu W3 e w') (hn:Now R Yh c fu m) (h1:ButE E w W2) (h2:ButE E W2 W3) (hE:E<w.heap.size) (hm:m.length<=M):RunAns B E M fv fs R.1 R.2.2 R.2.1 w e w':=by
 obtain ⟨j,l,b,d,f,g⟩:=ha
 exact Qu b hn d h1 (h2.trans f) g (Nat.le_trans h1.size h2.size) hE hm
theorem X1n (a b c:Value) (w:World):(callFunc 35 #[a,b,c]).run Tryz.prog w= .ok (.enter 35 #[a,b,c]) w:=by kernel_rfl


theorem Xlh {E base m:Nat} {w:World} {v:Value} {rs:Nat->Value} {KV IV:Nat->Nat->Value} {lo:Nat->Nat} {l:List (List VN)} (h:Rows2 base w v m (Xn l) rs KV IV lo) (hm:l.length=m) (hE:E<base) (hok:∀j,j<m->okB (Xn l j)=true):LR E base w v ((List.range m).map rs) l:=by
 subst hm
 refine ⟨h.row,hE,fun j hj=> ?_⟩
 have b:((List.range l.length).map rs).getD j undef=rs j:=by
  rw[List.getD_eq_getElem?_getD,List.getElem?_map,List.getElem?_range hj];rfl
 rw[b]
 exact NR.made (h.nest j hj) (hok j hj) (Nat.lt_of_lt_of_le hE (h.low j (by omega)))
theorem StrsAt.nil (B:Nat) (w:World):StrsAt B w (.slice none 0 0) []:=⟨by simp,fun i hi=>absurd hi (by simp),none,0,rfl,fun h=>absurd h (by simp)⟩
theorem Xyb {E:Nat} {v:Value} {ns:List VN} {w:World} (hv:NR E w v ns) (hE:E<w.heap.size):Calls Tryz.prog 79 #[v] w (Made1 E (K9 ns) w):=by
 obtain ⟨b7,b8⟩:=hv.sized
 have L:=hv.ok
 have bw:=Xa (Ju L)
 obtain ⟨_,b0,o0,c0,rfl,ct,hc⟩:∃(_:ns.length<=1759218604416) (b o c:Nat),v= .slice (some ⟨b,o,none⟩) ns.length c/\b<w.heap.size/\∃ka ki,NodeAt w.heap.size w b (o+(ns.length-1) *5) (Xb ns (ns.length-1)) ka ki:=by
  obtain ⟨hl,a,c,e,hx⟩:=hv.nodes
  obtain ⟨b,o,ea,hb,b9⟩:=hx (by omega)
  exact ⟨hl,b,o,c,by rw[e,ea],hb,b9 _ (by omega)⟩
 obtain ⟨ka,ki,hn⟩:=hc
 obtain ⟨cs,be,aK,cK,rfl,ca⟩:=hn.inn.keys
 obtain ⟨_,_,aI,cI,rfl,_⟩:=hn.inn.kids
 have bg:=Xa ca
 have d0:=hn.c0
 have d1:=hn.c1
 have d2:=hn.c2
 have d3:=hn.c3
 have d4:=hn.c4
 have bx:(Xb ns (ns.length-1)).kids.length<=80:=by have:=(Xm L).2.2.2 (ns.length-1) (by omega);omega
 have cb:(Xd ns).kind=6->(Xb ns (ns.length-1)).keys.length=(Xb ns (ns.length-1)).kids.length/\∀i,i<(Xb ns (ns.length-1)).keys.length->Z4 (Xf (Xb ns (ns.length-1)).keys i)=true:=fun k=>⟨(Y0 L k).1,fun i hi=>(Xsj (Y0 L k).2 hi).1⟩
 have C:=Xa cb
 have M:=Xa (fun a=>Xhl L a)
 have D:Hid ((Xe ns).length=(Xb ns (ns.length-1)).kids.length/\(Xd ns).keys=(Xb ns (ns.length-1)).keys):=⟨rfl,rfl⟩
 have P:Hid (∀j,(Xd ns).kind=5->j<(Xe ns).length->Xn (Vv ns) j=Xr 3 (j:Int) ByteArray.empty):=fun j a b=>Xo7 a b
 have F:Hid (∀j,(Xd ns).kind=6->j<(Xd ns).keys.length->Xn (Vv ns) j=Xr 4 0 (Xf (Xd ns).keys j)):=fun j a b=>Xlf a b
 have HR:Hid (K9 ns=if (Xd ns).kind=5\/(Xd ns).kind=6 then Yo (Zo (Vv ns)) else (2,[])):=rfl
 obtain ⟨r,hr⟩:∃r,K9 ns=r:=⟨_,rfl⟩
 rw[hr] at HR|-
 obtain ⟨p,cc⟩:∃p,Vv ns=p:=⟨_,rfl⟩
 rw[cc] at HR M P F
 obtain ⟨x,hx⟩:∃x,Xb ns (ns.length-1)=x:=⟨_,rfl⟩
 have cd:Xd ns=x:=hx
 rw[hx] at d0 d1 d2 d3 d4 bx bg C D be
 rw[cd] at HR M P F C bw D
 obtain ⟨R,ce⟩:∃R,x.kids.length=R:=⟨_,rfl⟩
 obtain ⟨KS,cf⟩:∃KS,x.keys.length=KS:=⟨_,rfl⟩
 rw[ce] at d4 bx C D
 rw[cf] at d3 C bg F be
 obtain ⟨kx,cg⟩:∃k,x.kind=k:=⟨_,rfl⟩
 rw[cg] at d0 HR M P F C bw
 obtain ⟨i0,bz,b1,b2,b3⟩:=info_parts J8
 obtain ⟨NL,ch⟩:∃NL,ns.length=NL:=⟨_,rfl⟩
 rw[ch] at b7 b8 d0 d1 d2 d3 d4|-
 obtain ⟨G,bh⟩:∃G,w.alloc (.cells #[.int .i64 kx, .int .i64 x.n, .string x.s, .slice aK KS cK, .slice aI R cI] 75)=G:=⟨_,rfl⟩
 obtain ⟨W2,b4⟩:∃W2,G.alloc (.cells #[] 25)=W2:=⟨_,rfl⟩
 have ci:G.heap.size=w.heap.size+1:=by rw[<-bh];simp
 have bb:Hid (Below w.heap.size w G):=by rw[Hid,<-bh];exact (Below.refl _ _).alloc (Nat.le_refl _) _
 have B:Hid (Below (w.heap.size+1) G W2):=by rw[Hid,<-b4];exact (Below.refl _ _).alloc (by omega) _
 have cj:Hid (Below w.heap.size w W2):=bb.out.trans (B.out.mono (by omega))
 have S:G.heap[w.heap.size]? =some (.cells #[.int .i64 kx, .int .i64 x.n, .string x.s, .slice aK KS cK, .slice aI R cI] 75 (0,0)):=by rw[<-bh];exact heap_alloc_new w _
 have bi:Hid (∀Y,Below (w.heap.size+1) G Y->Y.cell? ⟨w.heap.size,0,none⟩=some (.int .i64 kx)/\Y.cell? ⟨w.heap.size,3,none⟩=some (.slice aK KS cK)/\Y.cell? ⟨w.heap.size,4,none⟩=some (.slice aI R cI)):=fun Y hY=>⟨(Xc hY (by omega)).trans (Xw S 0),(Xc hY (by omega)).trans (Xw S 3),(Xc hY (by omega)).trans (Xw S 4)⟩
 have x0:=(bi.out _ B.out).1
 have b5:Hid (Rows2 (w.heap.size+1) W2 (.slice (some ⟨w.heap.size+1,0,none⟩) 0 0) 0 (Xn p) (fun _=>undef) (fun _ _=>undef) (fun _ _=>undef) (fun _=>w.heap.size+1)):=by rw[Hid,<-b4,<-ci];exact Rows2.start (World.ownsRow_lit G #[] 0 (Nat.le_refl _) (by simp[maxLen]) rfl) (by simp) _
 have bc:Hid (E<w.heap.size):=hE
 by_cases k6:kx=6
 ·subst k6
  obtain ⟨b6,ck⟩:=C.out rfl
  have cl:=Xa ck
  have J:Hid (r=Yo (Zo p)):=by rw[Hid,HR.out,if_pos (.inr rfl)]
  have T:Hid (p.length=KS):=by rw[Hid,M.out (.inr rfl),D.out.1,b6]
  subst b6
  go_enter Tryz.func79,Tryz.ntmps79
  go_wp2_with fail
  go_loopw [5,6] (fun o i wr=>∃(k:Nat) (rs:Nat->Value) (KV IV:Nat->Nat->Value) (lo:Nat->Nat),k<=KS/\i= .int .i64 k/\Rows2 (w.heap.size+1) wr o k (Xn p) rs KV IV lo/\Below (w.heap.size+1) G wr) (fun _ i _=>KS-(intOf i).toNat)
  case atStart=>exact ⟨0,_,_,_,_,Nat.zero_le _,rfl,b5.out,B.out⟩
  case round=>
   obtain ⟨k,rs,KV,IV,lo,hk,rfl,f,t⟩:=hrel
   have z:=Xa f
   have V:=Xa t
   have zs:=t.size
   obtain ⟨ao,co,eo⟩:=Xg f.row
   subst eo
   obtain ⟨y0,y3,y4⟩:=bi.out wr t
   by_cases hlt:k<KS
   ·obtain ⟨bk,ok,rfl,cm,cn⟩:=bg.out (by omega)
    have cp:wr.cell? ⟨bk,ok+k,none⟩=some (.string (Xf x.keys k)):=(Xc t (by omega)).trans ((Xc bb.out cm).trans (cn k hlt))
    have bd:Hid (Xr 4 0 (Xf x.keys k)=Xn p k):=by rw[Hid,F.out k (by simp) hlt]
    obtain ⟨ky,cq⟩:∃ky,Xf x.keys k=ky:=⟨_,rfl⟩
    rw[cq] at cp bd
    go_wp2_with fail
    refine (Xw5 ky wr).mono ?_
    rintro e w3 ⟨rfl,g,d⟩
    rw[bd.out] at g
    have bj:=Xa g
    have q:=Xa d
    have z3:=d.size
    have y:=Xa (z.out.below d).row
    go_wp2_with (at_builtin;refine wpList_append_own_at _ rfl _ _ 28 rfl (w.heap.size+1) 25 i0 (.slice none 0 0) 1 24 Tryz.underlying28 bz b1 b2 b3 rfl (by decide) _ _ _ rfl (y.out.alloc _) ⟨w3.heap.size,0,none⟩ 1 1 [.slice (some ⟨wr.heap.size,0,none⟩) 1 1] rfl rfl ?c1 ?c2 ?c3 ?c4 ?c5 ?_)
    case c1=>exact cell_one_new _ _ _
    case c2=>intro u hu;simp at hu;subst hu;rfl
    case c3=>unfold maxLen;omega
    case c4=>omega
    case c5=>simp;omega
    intro v' w5 X l _ _
    have bl:=Xa (z.out.snoc q.out bj.out X l)
    have bm:Hid (Below (w.heap.size+1) G w5):=((V.out.trans (q.out.mono (by omega))).alloc (by omega) _).grown l (by simp;omega) (fun x hx=>(y.out.lt x hx).1)
    go_wp2_with fail
    go_roundw
    case rel=>exact ⟨k+1,_,_,_,_,by omega,by go_num,bl.out,bm.out⟩
    case measure=>simp[intOf];omega
   ·obtain rfl:k=KS:=by omega
    have bn:Hid (LR E (w.heap.size+1) wr (.slice ao k co) ((List.range k).map rs) p):=Xlh z.out T.out (by have:=bc.out;omega) (fun j hj=>by rw[F.out j (by simp) hj];exact Xsp (cl.out j hj))
    have bo:=Xa (Xae (kind:=5) (kv:= .slice none 0 0) (keys:= []) (by decide) (by decide) bn.out (by rw[T.out];omega) (StrsAt.nil 0 wr) (Nat.zero_le _) (by simp) (fun i hi=>absurd hi (by simp)))
    go_wp2_with fail
    refine bo.out.mono ?_
    rintro e w3 ⟨u,K,I,rfl,g,d,cr,bp⟩
    have Z:=Xa (Uq (E:=E) g (by have:=bc.out;omega) (by omega) bp)
    have q:=Xa (V.out.trans (d.mono (by omega)))
    have z3:=d.size
    obtain ⟨a3,c3,e3⟩:=Xg g.row
    obtain ⟨L3,bq⟩:∃L3,(Yi 5 [] (Xn p) p.length).length=L3:=⟨_,rfl⟩
    have HQ:Hid (Yo (Yi 5 [] (Xn p) p.length)=r):=by rw[Hid,J.out];rfl
    rw[HQ.out] at Z
    rw[bq] at e3
    subst e3
    go_wp2_with fail
    refine Z.out.mono ?_
    rintro e w4 ⟨u4,rfl,⟨a4,l4,c4,rfl⟩,br,bs⟩
    have bt:=Xa br
    have bu:=Xa (bb.out.trans ((q.out.trans (bs.mono (by omega))).mono (by omega)))
    obtain ⟨rc,ba⟩:∃rc,r.1=rc:=⟨_,rfl⟩
    have bv:=Xa ba
    rw[ba]
    go_wp2_with fail
    go_ret2
    exact ⟨.slice a4 l4 c4,by rw[bv.out];rfl,⟨a4,l4,c4,rfl⟩,bt.out,bu.out⟩
 ·by_cases k5:kx=5
  ·subst k5
   have J:Hid (r=Yo (Zo p)):=by rw[Hid,HR.out,if_pos (.inl rfl)]
   have T:Hid (p.length=R):=by rw[Hid,M.out (.inl rfl),D.out.1]
   have bf:Hid ((Xe ns).length=R):=D.out.1
   go_enter Tryz.func79,Tryz.ntmps79
   go_wp2_with fail
   go_loopw [5,7] (fun o i wr=>∃(k:Nat) (rs:Nat->Value) (KV IV:Nat->Nat->Value) (lo:Nat->Nat),k<=R/\i= .int .i64 k/\Rows2 (w.heap.size+1) wr o k (Xn p) rs KV IV lo/\Below (w.heap.size+1) G wr) (fun _ i _=>R-(intOf i).toNat)
   case atStart=>exact ⟨0,_,_,_,_,Nat.zero_le _,rfl,b5.out,B.out⟩
   case round=>
    obtain ⟨k,rs,KV,IV,lo,hk,rfl,f,t⟩:=hrel
    have z:=Xa f
    have V:=Xa t
    have zs:=t.size
    obtain ⟨ao,co,eo⟩:=Xg f.row
    subst eo
    obtain ⟨y0,y3,y4⟩:=bi.out wr t
    by_cases hlt:k<R
    ·have bd:Hid (Xr 3 (k:Int) ByteArray.empty=Xn p k):=by rw[Hid,P.out k (by simp) (by rw[bf.out];exact hlt)]
     go_wp2_with fail
     refine (Xrb k wr).mono ?_
     rintro e w3 ⟨rfl,g,d⟩
     rw[bd.out] at g
     have bj:=Xa g
     have q:=Xa d
     have z3:=d.size
     have y:=Xa (z.out.below d).row
     go_wp2_with (at_builtin;refine wpList_append_own_at _ rfl _ _ 28 rfl (w.heap.size+1) 25 i0 (.slice none 0 0) 1 24 Tryz.underlying28 bz b1 b2 b3 rfl (by decide) _ _ _ rfl (y.out.alloc _) ⟨w3.heap.size,0,none⟩ 1 1 [.slice (some ⟨wr.heap.size,0,none⟩) 1 1] rfl rfl ?d1 ?d2 ?d3 ?d4 ?d5 ?_)
     case d1=>exact cell_one_new _ _ _
     case d2=>intro u hu;simp at hu;subst hu;rfl
     case d3=>unfold maxLen;omega
     case d4=>omega
     case d5=>simp;omega
     intro v' w5 X l _ _
     have bl:=Xa (z.out.snoc q.out bj.out X l)
     have bm:Hid (Below (w.heap.size+1) G w5):=((V.out.trans (q.out.mono (by omega))).alloc (by omega) _).grown l (by simp;omega) (fun x hx=>(y.out.lt x hx).1)
     go_wp2_with fail
     go_roundw
     case rel=>exact ⟨k+1,_,_,_,_,by omega,by go_num,bl.out,bm.out⟩
     case measure=>simp[intOf];omega
    ·obtain rfl:k=R:=by omega
     have bn:Hid (LR E (w.heap.size+1) wr (.slice ao k co) ((List.range k).map rs) p):=Xlh z.out T.out (by have:=bc.out;omega) (fun j hj=>by rw[P.out j (by simp) (by rw[bf.out];exact hj)];exact Xih (by omega) (by omega))
     have bo:=Xa (Xae (kind:=5) (kv:= .slice none 0 0) (keys:= []) (by decide) (by decide) bn.out (by rw[T.out];omega) (StrsAt.nil 0 wr) (Nat.zero_le _) (by simp) (fun i hi=>absurd hi (by simp)))
     go_wp2_with fail
     refine bo.out.mono ?_
     rintro e w3 ⟨u,K,I,rfl,g,d,cr,bp⟩
     have Z:=Xa (Uq (E:=E) g (by have:=bc.out;omega) (by omega) bp)
     have q:=Xa (V.out.trans (d.mono (by omega)))
     have z3:=d.size
     obtain ⟨a3,c3,e3⟩:=Xg g.row
     obtain ⟨L3,bq⟩:∃L3,(Yi 5 [] (Xn p) p.length).length=L3:=⟨_,rfl⟩
     have HQ:Hid (Yo (Yi 5 [] (Xn p) p.length)=r):=by rw[Hid,J.out];rfl
     rw[HQ.out] at Z
     rw[bq] at e3
     subst e3
     go_wp2_with fail
     refine Z.out.mono ?_
     rintro e w4 ⟨u4,rfl,⟨a4,l4,c4,rfl⟩,br,bs⟩
     have bt:=Xa br
     have bu:=Xa (bb.out.trans ((q.out.trans (bs.mono (by omega))).mono (by omega)))
     obtain ⟨rc,ba⟩:∃rc,r.1=rc:=⟨_,rfl⟩
     have bv:=Xa ba
     rw[ba]
     go_wp2_with fail
     go_ret2
     exact ⟨.slice a4 l4 c4,by rw[bv.out];rfl,⟨a4,l4,c4,rfl⟩,bt.out,bu.out⟩
  ·have J:Hid (r=(2,[])):=by rw[Hid,HR.out,if_neg (by omega)]
   go_enter Tryz.func79,Tryz.ntmps79
   go_wp2_with fail
   go_ret2
   exact ⟨.slice none 0 0,by rw[J.out];rfl,⟨none,0,0,rfl⟩,fun h=>by rw[J.out] at h;exact absurd h (by decide),cj.out⟩


theorem Xyl {fs:List FN} {x:FN} (h:NodeOk fs x):(x.kind≠3->x.place=0)/\(x.kind=3->-80<=x.place/\x.place<=80):=by
 have b:=h.fit
 unfold Xv Uz at b
 simp only[Bool.and_eq_true] at b
 obtain ⟨⟨⟨⟨⟨d,c⟩,g⟩,j⟩,o⟩,f⟩:=b
 refine ⟨fun e=> ?_,fun e=> ?_⟩
 ·simp[e] at c;exact c
 ·unfold J1 at o;rw[if_neg (by omega),if_pos e] at o;simpa using o
theorem X1r {E:Nat} {v:Value} {ns:List VN} {w:World} (hv:NR E w v ns) (hE:E<w.heap.size) {j:Nat} (hj:j<(Xe ns).length):Calls Tryz.prog 129 #[v, .int .i64 (Xj (Xe ns) j)] w (Xh4 E (PL ns j) w):=by
 obtain ⟨q,l,o⟩:=Zh hv.ok hj
 obtain ⟨p,C,s,D⟩:=Xm hv.ok
 obtain ⟨⟨d,t⟩,b⟩:=s q (by omega)
 rw[l]
 refine (Xh9 w.heap.size v ns q d t w hv.nodes (Nat.le_refl _) p.2 (K7 hv.ok) (by omega) b).mono ?_
 rintro e F ⟨r,K,I,y,f,z⟩
 have g:run ns (-(d:Int)) d (q+1-d)=PL ns j:=by unfold PL;rw[l,Int.toNat_natCast,Ys,b];simp[trF]
 rw[g] at f
 obtain ⟨a,c,B⟩:=Xg f.row
 exact ⟨r,y,⟨a,c,B⟩,NR.made f (Xf6 hv.ok hj) hE,z⟩
theorem Xpk {x:VN} {key:ByteArray} {pl:Int} (h6:x.kind=6):Jj (Qy x ⟨true,key,pl⟩)=if Yz x.keys key=true then ((Zz x.keys key:Nat):Int) else-1:=by
 unfold Qy Gw
 simp only[h6]
 cases h:Yz x.keys key<;>simp[Jj,h]
theorem Xkc {x:VN} {key:ByteArray} {q:Int} (h5:x.kind=5) (h0:0<=q):Jj (Qy x ⟨false,key,q⟩)=if q<(x.kids.length:Int) then q else-1:=by
 unfold Qy Gw
 by_cases h:q<(x.kids.length:Int)
 ·simp[h5,h,Jj];omega
 ·simp[h5,h,Jj]
theorem Kl {B E fu:Nat} {fv v kc kn ki:Value} {fs:List FN} {x:FN} {ns:List VN} {w:World} (hx:NodeOk fs x) (hin:FNodeIn B w x kc kn ki) (hs:SE B E fv fs fu 0 w) (hv:NR E w v ns):∃(b1 o1 c1:Nat) (aK1:Option Addr) (cK1:Nat) (aI1:Option Addr) (cI1:Nat) (aC:Option Addr) (cC:Nat) (aK:Option Addr) (cK:Nat) (aI:Option Addr) (cI NL:Nat) (kr nr:Int) (sr:ByteArray) (KS KM:Nat) (kk:Int) (nm:ByteArray) (pl:Int) (rr:Int×List VN) (W1 W2 W3:World),
  v= .slice (some ⟨b1,o1,none⟩) NL c1/\kc= .slice aC x.cst.length cC/\kn= .slice aK x.names.length cK/\ki= .slice aI x.kids.length cI/\
   ns.length=NL/\
   (Xd ns).kind=kr/\
   (Xd ns).n=nr/\
   (Xd ns).s=sr/\
   (Xd ns).keys.length=KS/\
   (Xd ns).kids.length=KM/\
   x.kind=kk/\
   x.name=nm/\
   x.place=pl/\
   Yp x ns=rr/\
   w.alloc (.cells #[.int .i64 kk, .string nm, .int .i64 pl, .slice aC x.cst.length cC, .slice aK x.names.length cK, .slice aI x.kids.length cI] 84)=W1/\
   W1.alloc (.cells #[.int .i64 kr, .int .i64 nr, .string sr, .slice aK1 KS cK1, .slice aI1 KM cI1] 75)=W2/\
   W2.alloc (.cells #[.bool (kk==2), .string nm, .int .i64 pl] 183)=W3/\
   1<=NL/\
   NL<=80/\
   (1<=(Xd ns).kind/\(Xd ns).kind<=6)/\
   b1<w.heap.size/\
   E<w.heap.size/\
   (x.kind≠3->x.place=0)/\
   (x.kind=3->-80<=x.place/\x.place<=80)/\
   (Xd ns).kids.length<=80/\
   Hid (Xe ns=(Xd ns).kids)/\
   Hid (okB ns=true)/\
   Hid (NodeIn w.heap.size w (Xd ns) (.slice aK1 (Xd ns).keys.length cK1) (.slice aI1 (Xd ns).kids.length cI1))/\
   Hid (0<(Xd ns).kids.length->∃b o,aI1=some ⟨b,o,none⟩/\b<w.heap.size/\∀i,i<(Xd ns).kids.length->w.cell? ⟨b,o+i,none⟩=some (.int .i64 (Xj (Xd ns).kids i)))/\
   Hid (∀W,Below w.heap.size w W->∀j,j<(Xe ns).length->Calls Tryz.prog 129 #[.slice (some ⟨b1,o1,none⟩) NL c1, .int .i64 (Xj (Xe ns) j)] W (Xh4 E (PL ns j) W))/\
   Hid (∀W,Below w.heap.size w W->SE B E fv fs fu 0 W)/\
   Hid (x.kind=2->rr=K8 ns x.name)/\
   Hid (x.kind=3->rr=atR ns x.place)/\
   W1.heap.size=w.heap.size+1/\
   W2.heap.size=w.heap.size+2/\
   W3.heap.size=w.heap.size+3/\
   W1.cell? ⟨w.heap.size,0,none⟩=some (.int .i64 kk)/\
   W1.cell? ⟨w.heap.size,1,none⟩=some (.string nm)/\
   W1.cell? ⟨w.heap.size,2,none⟩=some (.int .i64 pl)/\
   W2.cell? ⟨w.heap.size,0,none⟩=some (.int .i64 kk)/\
   W2.cell? ⟨w.heap.size,1,none⟩=some (.string nm)/\
   W2.cell? ⟨w.heap.size,2,none⟩=some (.int .i64 pl)/\
   W3.cell? ⟨w.heap.size+1,0,none⟩=some (.int .i64 kr)/\
   W3.cell? ⟨w.heap.size+1,1,none⟩=some (.int .i64 nr)/\
   W3.cell? ⟨w.heap.size+1,2,none⟩=some (.string sr)/\
   W3.cell? ⟨w.heap.size+1,3,none⟩=some (.slice aK1 KS cK1)/\
   W3.cell? ⟨w.heap.size+1,4,none⟩=some (.slice aI1 KM cI1)/\
   W3.cell? ⟨w.heap.size+2,0,none⟩=some (.bool (kk==2))/\
   W3.cell? ⟨w.heap.size+2,1,none⟩=some (.string nm)/\
   W3.cell? ⟨w.heap.size+2,2,none⟩=some (.int .i64 pl)/\
   W3.frozen? ⟨w.heap.size+2,2,none⟩=false/\
   W1.cell? ⟨b1,o1+(NL-1) *5,none⟩=some (.int .i64 kr)/\
   W1.cell? ⟨b1,o1+(NL-1) *5+1,none⟩=some (.int .i64 nr)/\
   W1.cell? ⟨b1,o1+(NL-1) *5+2,none⟩=some (.string sr)/\
   W1.cell? ⟨b1,o1+(NL-1) *5+3,none⟩=some (.slice aK1 KS cK1)/\
   W1.cell? ⟨b1,o1+(NL-1) *5+4,none⟩=some (.slice aI1 KM cI1)/\
   Hid (Below w.heap.size w W3)/\
   Hid (NodeIn w.heap.size W3 (Xd ns) (.slice aK1 (Xd ns).keys.length cK1) (.slice aI1 (Xd ns).kids.length cI1)):=by
 have HX:=Xa hx
 have X:=Xa hv.ok
 have HS:=Xa hs
 have HV:=Xa hv
 have br:=Xa hin
 obtain ⟨Y,Z⟩:=hv.sized
 have ba:=Xer hv.ok
 obtain ⟨_,b1,o1,c1,rfl,g,bb⟩:∃(_:ns.length<=1759218604416) (b o c:Nat),v= .slice (some ⟨b,o,none⟩) ns.length c/\b<w.heap.size/\∃ka ki,NodeAt w.heap.size w b (o+(ns.length-1) *5) (Xd ns) ka ki:=by
  obtain ⟨hl,a,c,e,hx⟩:=hv.nodes
  obtain ⟨b,o,ea,J,bc⟩:=hx (by omega)
  exact ⟨hl,b,o,c,by rw[e,ea],J,bc _ (by omega)⟩
 obtain ⟨bs,bt,d⟩:=bb
 have bd:=Xa d.inn
 obtain ⟨_,_,aK1,cK1,rfl,_⟩:=id d.inn.keys
 obtain ⟨_,_,aI1,cI1,rfl,be⟩:=id d.inn.kids
 have bf:=Xa be
 have d0:=d.c0
 have d1:=d.c1
 have d2:=d.c2
 have d3:=d.c3
 have d4:=d.c4
 obtain ⟨_,aC,cC,rfl,_⟩:=id hin.cst
 obtain ⟨_,_,aK,cK,rfl,_⟩:=id hin.names
 obtain ⟨_,_,aI,cI,rfl,_⟩:=id hin.kids
 have hE:=hs.lt
 obtain ⟨L,M⟩:=Xyl hx
 have P:(Xd ns).kids.length<=80:=by have:=(Xm hv.ok).2.2.2 (ns.length-1) (by omega);unfold Xd;omega
 have bg:Hid (Xe ns=(Xd ns).kids):=rfl
 have bh:Hid (∀W,Below w.heap.size w W->∀j,j<(Xe ns).length->Calls Tryz.prog 129 #[.slice (some ⟨b1,o1,none⟩) ns.length c1, .int .i64 (Xj (Xe ns) j)] W (Xh4 E (PL ns j) W)):=fun W J j hj=>X1r (hv.below J) (Nat.lt_of_lt_of_le hE J.size) hj
 have bi:Hid (∀W,Below w.heap.size w W->SE B E fv fs fu 0 W):=fun W J=>hs.below J
 obtain ⟨rr,t⟩:∃rr,Yp x ns=rr:=⟨_,rfl⟩
 have bu:=Xa t
 have bj:Hid (x.kind=2->rr=K8 ns x.name):=fun k=>by rw[<-t];unfold Yp;rw[if_pos k]
 have bk:Hid (x.kind=3->rr=atR ns x.place):=fun k=>by rw[<-t];unfold Yp;rw[if_neg (by omega),if_pos k]
 obtain ⟨W1,y⟩:∃W1,w.alloc (.cells #[.int .i64 x.kind, .string x.name, .int .i64 x.place, .slice aC x.cst.length cC, .slice aK x.names.length cK, .slice aI x.kids.length cI] 84)=W1:=⟨_,rfl⟩
 obtain ⟨W2,p⟩:∃W2,W1.alloc (.cells #[.int .i64 (Xd ns).kind, .int .i64 (Xd ns).n, .string (Xd ns).s, .slice aK1 (Xd ns).keys.length cK1, .slice aI1 (Xd ns).kids.length cI1] 75)=W2:=⟨_,rfl⟩
 obtain ⟨W3,q⟩:∃W3,W2.alloc (.cells #[.bool (x.kind==2), .string x.name, .int .i64 x.place] 183)=W3:=⟨_,rfl⟩
 have C:W1.heap.size=w.heap.size+1:=by rw[<-y];simp
 have D:W2.heap.size=w.heap.size+2:=by rw[<-p];simp[C]
 have bl:W3.heap.size=w.heap.size+3:=by rw[<-q];simp[D]
 have l:Below w.heap.size w W1:=by rw[<-y];exact (Below.refl _ _).alloc (Nat.le_refl _) _
 have bm:Below w.heap.size w W2:=by rw[<-p];exact l.alloc (by omega) _
 have R:Below w.heap.size w W3:=by rw[<-q];exact bm.alloc (by omega) _
 have F:Below (w.heap.size+1) W1 W2:=by rw[<-p];exact (Below.refl _ _).alloc (by omega) _
 have bn:Below (w.heap.size+2) W2 W3:=by rw[<-q];exact (Below.refl _ _).alloc (by omega) _
 have G:W1.heap[w.heap.size]? =some (.cells #[.int .i64 x.kind, .string x.name, .int .i64 x.place, .slice aC x.cst.length cC, .slice aK x.names.length cK, .slice aI x.kids.length cI] 84 (0,0)):=by rw[<-y];exact heap_alloc_new w _
 have bo:W2.heap[w.heap.size+1]? =some (.cells #[.int .i64 (Xd ns).kind, .int .i64 (Xd ns).n, .string (Xd ns).s, .slice aK1 (Xd ns).keys.length cK1, .slice aI1 (Xd ns).kids.length cI1] 75 (0,0)):=by rw[<-p,<-C];exact heap_alloc_new W1 _
 have z:W3.heap[w.heap.size+2]? =some (.cells #[.bool (x.kind==2), .string x.name, .int .i64 x.place] 183 (0,0)):=by rw[<-q,<-D];exact heap_alloc_new W2 _
 have f:W3.heap[w.heap.size+1]? =some (.cells #[.int .i64 (Xd ns).kind, .int .i64 (Xd ns).n, .string (Xd ns).s, .slice aK1 (Xd ns).keys.length cK1, .slice aI1 (Xd ns).kids.length cI1] 75 (0,0)):=(bn.block _ (by omega)).trans bo
 have f0:=Xw G 0
 have f1:=Xw G 1
 have f2:=Xw G 2
 have S:=(Xc F (by omega:w.heap.size<w.heap.size+1)).trans f0
 have T:=(Xc F (by omega:w.heap.size<w.heap.size+1)).trans f1
 have V:=(Xc F (by omega:w.heap.size<w.heap.size+1)).trans f2
 have r0:=Xw f 0
 have r1:=Xw f 1
 have r2:=Xw f 2
 have r3:=Xw f 3
 have r4:=Xw f 4
 have t0:=Xw z 0
 have t1:=Xw z 1
 have t2:=Xw z 2
 have t3:W3.frozen? ⟨w.heap.size+2,2,none⟩=false:=by simp[World.frozen?,z]
 simp at f0 f1 f2 S T V r0 r1 r2 r3 r4 t0 t1 t2
 have m0:=(Xc l g).trans d0
 have m1:=(Xc l g).trans d1
 have m2:=(Xc l g).trans d2
 have m3:=(Xc l g).trans d3
 have m4:=(Xc l g).trans d4
 have bp:=Xa R
 have bq:=Xa (d.inn.below R)
 exact ⟨b1,o1,c1,aK1,cK1,aI1,cI1,aC,cC,aK,cK,aI,cI,ns.length,(Xd ns).kind,(Xd ns).n,(Xd ns).s,(Xd ns).keys.length,(Xd ns).kids.length,x.kind,x.name,x.place,rr,W1,W2,W3,rfl,rfl,rfl,rfl,rfl,rfl,rfl,rfl,rfl,rfl,rfl,rfl,rfl,t,y,p,q,Y,Z,ba,g,hE,L,M,P,bg,X,bd,bf,bh,bi,bj,bk,C,D,bl,f0,f1,f2,S,T,V,r0,r1,r2,r3,r4,t0,t1,t2,t3,m0,m1,m2,m3,m4,bp,bq⟩
theorem Xu8 {B E fu:Nat} {fv v kc kn ki:Value} {fs:List FN} {x:FN} {ns:List VN} {w:World} (hx:NodeOk fs x) (k:x.kind=2) (hin:FNodeIn B w x kc kn ki) (hs:SE B E fv fs fu 0 w) (hv:NR E w v ns) (hr:(Xd ns).kind=1):
  Calls Tryz.prog 71 #[.pointer (some ⟨E,0,none⟩),v,Ym x kc kn ki] w (Qv B E fv fs (Yp x ns).1 (Zd (Yp x ns)) fu w):=by
 obtain ⟨b1,o1,c1,ba,bb,bc,bd,aC,cC,aK,cK,aI,cI,NL,kr,nr,sr,KS,KM,kk,nm,pl,rr,W1,W2,W3,rfl,rfl,rfl,rfl,J,b,g,j,L,l,c,o,p,q,be,bf,M,bg,bh,P,bi,hE,s,t,y,bj,bk,bl,bm,bn,R,S,bo,bp,bq,br,f0,f1,f2,bs,bt,bu,r0,r1,r2,r3,r4,t0,t1,t2,t3,m0,m1,m2,m3,m4,T,bv⟩:=Kl hx hin hs hv
 rw[q]
 have z:Hid (rr=(0,Ja)):=by rw[Hid];rw[S.out k];unfold K8;rw[if_pos hr]
 have z1:((NL:Int)-1).toNat=NL-1:=by omega
 rw[l] at y
 unfold Ym
 rw[c,o,p]
 have e2:(kk==2)=true:=by rw[<-c,k];rfl
 rw[e2] at t0 M
 obtain rfl:kr=1:=by rw[<-b,hr]
 clear hx hin hs hv k q P s t J b g j L l c o p hr
 go_enter Tryz.func71,Tryz.ntmps71
 go_wp2_with fail
 refine (Xad E W3 (by omega)).mono ?_
 rintro e w4 ⟨u,rfl,⟨a4,c4,rfl⟩,C,D⟩
 have d:=Xa (T.out.trans (D.mono (by omega)))
 have V:=Xa (J9 (R.out _ d.out) C)
 clear C D
 go_wp2_with fail
 refine V.out.mono ?_
 rintro e w5 ⟨sv,xs,rfl,F,G,f⟩
 have X:=Xa F
 have Y:=Xa ((ButE.of_below d.out).trans G)
 have Z:=Xa (f.low (base':=w.heap.size) d.out.size hE)
 obtain ⟨a5,c5,rfl⟩:=f.slice
 clear F G f
 go_wp2_with fail
 go_ret
 exact ⟨_,_,rfl,by rw[z.out];exact X.out,Y.out,by rw[z.out];exact Z.out⟩
theorem Xu9 {B E fu:Nat} {fv v kc kn ki:Value} {fs:List FN} {x:FN} {ns:List VN} {w:World} (hx:NodeOk fs x) (k:x.kind=3) (hin:FNodeIn B w x kc kn ki) (hs:SE B E fv fs fu 0 w) (hv:NR E w v ns) (hr:(Xd ns).kind=1):
  Calls Tryz.prog 71 #[.pointer (some ⟨E,0,none⟩),v,Ym x kc kn ki] w (Qv B E fv fs (Yp x ns).1 (Zd (Yp x ns)) fu w):=by
 obtain ⟨b1,o1,c1,ba,bb,bc,bd,aC,cC,aK,cK,aI,cI,NL,kr,nr,sr,KS,KM,kk,nm,pl,rr,W1,W2,W3,rfl,rfl,rfl,rfl,J,b,g,j,L,l,c,o,p,q,be,bf,M,bg,bh,P,bi,hE,s,t,y,bj,bk,bl,bm,bn,R,bo,S,bp,bq,br,f0,f1,f2,bs,bt,bu,r0,r1,r2,r3,r4,t0,t1,t2,t3,m0,m1,m2,m3,m4,T,bv⟩:=Kl hx hin hs hv
 rw[q]
 have z:Hid (rr=(0,Ja)):=by rw[Hid];rw[S.out k];unfold atR;rw[if_pos hr]
 have z1:((NL:Int)-1).toNat=NL-1:=by omega
 rw[l] at y
 unfold Ym
 rw[c,o,p]
 have e2:(kk==2)=false:=by rw[<-c,k];rfl
 rw[e2] at t0 M
 obtain rfl:kr=1:=by rw[<-b,hr]
 clear hx hin hs hv k q P s t J b g j L l c o p hr
 go_enter Tryz.func71,Tryz.ntmps71
 go_wp2_with fail
 refine (Xad E W3 (by omega)).mono ?_
 rintro e w4 ⟨u,rfl,⟨a4,c4,rfl⟩,C,D⟩
 have d:=Xa (T.out.trans (D.mono (by omega)))
 have V:=Xa (J9 (R.out _ d.out) C)
 clear C D
 go_wp2_with fail
 refine V.out.mono ?_
 rintro e w5 ⟨sv,xs,rfl,F,G,f⟩
 have X:=Xa F
 have Y:=Xa ((ButE.of_below d.out).trans G)
 have Z:=Xa (f.low (base':=w.heap.size) d.out.size hE)
 obtain ⟨a5,c5,rfl⟩:=f.slice
 clear F G f
 go_wp2_with fail
 go_ret
 exact ⟨_,_,rfl,by rw[z.out];exact X.out,Y.out,by rw[z.out];exact Z.out⟩
theorem X1s {B E fu:Nat} {fv v kc kn ki:Value} {fs:List FN} {x:FN} {ns:List VN} {w:World} (hx:NodeOk fs x) (k:x.kind=2) (hin:FNodeIn B w x kc kn ki) (hs:SE B E fv fs fu 0 w) (hv:NR E w v ns) (hr1:(Xd ns).kind≠1) (hr:(Xd ns).kind≠6):
  Calls Tryz.prog 71 #[.pointer (some ⟨E,0,none⟩),v,Ym x kc kn ki] w (Qv B E fv fs (Yp x ns).1 (Zd (Yp x ns)) fu w):=by
 obtain ⟨b1,o1,c1,X,Y,Z,ba,aC,cC,aK,cK,aI,cI,V,kr,nr,sr,KS,KM,kk,nm,pl,rr,W1,W2,W3,rfl,rfl,rfl,rfl,F,b,g,j,G,l,c,o,p,q,bb,bc,J,bd,be,L,bf,hE,s,t,y,bg,bh,bi,bj,bk,M,P,bl,bm,bn,bo,f0,f1,f2,bp,bq,br,r0,r1,r2,r3,r4,t0,t1,t2,t3,m0,m1,m2,m3,m4,d,bs⟩:=Kl hx hin hs hv
 rw[q]
 have z:Hid (rr=(2,[])):=by rw[Hid];rw[P.out k];unfold K8;rw[if_neg hr1,if_neg hr]
 have z1:((V:Int)-1).toNat=V-1:=by omega
 rw[l] at y
 unfold Ym
 rw[c,o,p]
 have e2:(kk==2)=true:=by rw[<-c,k];rfl
 rw[e2] at t0 J
 have q1:(kr==1)=false:=by rw[<-b];simpa using hr1
 have q2:(kr==6)=false:=by rw[<-b];simpa using hr
 have q3:(kr !=6)=true:=by rw[<-b];simpa using hr
 clear hx hin hs hv k q L s t F b g j G l c o p hr1 hr
 go_enter Tryz.func71,Tryz.ntmps71
 go_wp2_with fail
 refine (Xjf none 0 0 (M.out _ d.out) (by decide:(2:Int)≠0)).mono ?_
 rintro e w5 ⟨sv,xs,rfl,C,D,f⟩
 have R:=Xa C
 have S:=Xa ((ButE.of_below d.out).trans D)
 have T:=Xa (f.low (base':=w.heap.size) d.out.size hE)
 obtain ⟨a5,c5,rfl⟩:=f.slice
 clear C D f
 go_wp2_with fail
 go_ret
 exact ⟨_,_,rfl,by rw[z.out];exact R.out,S.out,by rw[z.out];exact T.out⟩
theorem X1t {B E fu:Nat} {fv v kc kn ki:Value} {fs:List FN} {x:FN} {ns:List VN} {w:World} (hx:NodeOk fs x) (k:x.kind=3) (hin:FNodeIn B w x kc kn ki) (hs:SE B E fv fs fu 0 w) (hv:NR E w v ns) (hr1:(Xd ns).kind≠1) (hr:(Xd ns).kind≠5):
  Calls Tryz.prog 71 #[.pointer (some ⟨E,0,none⟩),v,Ym x kc kn ki] w (Qv B E fv fs (Yp x ns).1 (Zd (Yp x ns)) fu w):=by
 obtain ⟨b1,o1,c1,X,Y,Z,ba,aC,cC,aK,cK,aI,cI,V,kr,nr,sr,KS,KM,kk,nm,pl,rr,W1,W2,W3,rfl,rfl,rfl,rfl,F,b,g,j,G,l,c,o,p,q,bb,bc,J,bd,be,L,bf,hE,s,t,y,bg,bh,bi,bj,bk,M,bl,P,bm,bn,bo,f0,f1,f2,bp,bq,br,r0,r1,r2,r3,r4,t0,t1,t2,t3,m0,m1,m2,m3,m4,d,bs⟩:=Kl hx hin hs hv
 rw[q]
 have z:Hid (rr=(2,[])):=by rw[Hid];rw[P.out k];unfold atR;rw[if_neg hr1,if_neg hr]
 have z1:((V:Int)-1).toNat=V-1:=by omega
 rw[l] at y
 unfold Ym
 rw[c,o,p]
 have e2:(kk==2)=false:=by rw[<-c,k];rfl
 rw[e2] at t0 J
 have q1:(kr==1)=false:=by rw[<-b];simpa using hr1
 have q2:(kr==5)=false:=by rw[<-b];simpa using hr
 have q3:(kr !=5)=true:=by rw[<-b];simpa using hr
 clear hx hin hs hv k q L s t F b g j G l c o p hr1 hr
 go_enter Tryz.func71,Tryz.ntmps71
 go_wp2_with fail
 refine (Xjf none 0 0 (M.out _ d.out) (by decide:(2:Int)≠0)).mono ?_
 rintro e w5 ⟨sv,xs,rfl,C,D,f⟩
 have R:=Xa C
 have S:=Xa ((ButE.of_below d.out).trans D)
 have T:=Xa (f.low (base':=w.heap.size) d.out.size hE)
 obtain ⟨a5,c5,rfl⟩:=f.slice
 clear C D f
 go_wp2_with fail
 go_ret
 exact ⟨_,_,rfl,by rw[z.out];exact R.out,S.out,by rw[z.out];exact T.out⟩


theorem Xot {B E fu:Nat} {fv v kc kn ki:Value} {fs:List FN} {x:FN} {ns:List VN} {w:World} (hx:NodeOk fs x) (k:x.kind=2) (hin:FNodeIn B w x kc kn ki) (hs:SE B E fv fs fu 0 w) (hv:NR E w v ns) (hr:(Xd ns).kind=6) (hh:Yz (Xd ns).keys x.name=true):
  Calls Tryz.prog 71 #[.pointer (some ⟨E,0,none⟩),v,Ym x kc kn ki] w (Qv B E fv fs (Yp x ns).1 (Zd (Yp x ns)) fu w):=by
 obtain ⟨b1,o1,c1,bf,bg,bh,bj,aC,cC,aK,cK,aI,cI,NL,kr,nr,sr,KS,KM,kk,nm,pl,rr,W1,W2,W3,rfl,rfl,rfl,rfl,bk,d,o,p,M,b,z,C,g,P,b2,b3,bl,b4,b5,bm,b6,hE,q,R,t,S,D,bn,bo,bp,bq,br,b7,b8,b9,ca,f0,f1,f2,cb,cc,cd,r0,r1,r2,r3,r4,t0,t1,t2,t3,m0,m1,m2,m3,m4,T,ce⟩:=Kl hx hin hs hv
 rw[P]
 have j:Zz (Xd ns).keys x.name<(Xd ns).kids.length:=by have V:=Xju hh;rw[(Y0 D.out hr).1] at V;exact V
 have F:Hid (∀W,Below w.heap.size w W->Calls Tryz.prog 128 #[.agg #[.int .i64 (Xd ns).kind, .int .i64 (Xd ns).n, .string (Xd ns).s, .slice bf (Xd ns).keys.length bg, .slice bh (Xd ns).kids.length bj], .agg #[.bool true, .string x.name, .int .i64 x.place]] W fun e w'=>e= .returned (.int .i64 (((Zz (Xd ns).keys x.name:Nat):Int)))/\Below W.heap.size W w'):=fun W hb=>by
  have V:=Ub w.heap.size (Xd ns) _ _ ⟨true,x.name,x.place⟩ W (bn.out.below hb) hb.size (fun k6=>⟨Q7 (Y0 D.out k6).2,by rw[(Y0 D.out k6).1];exact t⟩) (by simp) (by omega) (by simp<;>omega)
  rw[Xpk hr,if_pos hh] at V
  exact V
 have bs:(Xd ns).kids.length≠0:=by omega
 obtain ⟨bi,oi,bt,bu,X⟩:=bo.out (by omega)
 subst bt
 obtain ⟨f,G⟩:∃f,Zz (Xd ns).keys x.name=f:=⟨_,rfl⟩
 rw[G] at F j
 have Y:Hid (rr=(0,PL ns f)):=by rw[Hid];rw[br.out k];unfold K8;rw[if_neg (by omega),if_pos hr,if_pos hh,G]
 have z1:((NL:Int)-1).toNat=NL-1:=by omega
 rw[b] at t
 rw[d,o,p,M,b,C,g] at F
 unfold Ym
 rw[z,C,g]
 have e2:(kk==2)=true:=by rw[<-z,k];rfl
 rw[e2] at t0 bl
 obtain rfl:kr=6:=by rw[<-d,hr]
 have cf:¬(pl<0):=by rw[<-g,q (by omega)];decide
 have cg:0<=pl:=by omega
 rw[b] at j
 have ch:(f:Int)<(KM:Int):=by omega
 have ci:¬((f:Int)<0):=by omega
 have bv:=Xa b
 have y:∀i,i<KM->w.cell? ⟨bi,oi+i,none⟩=some (.int .i64 (Xj (Xe ns) i)):=by rw[S.out,<-b];exact X
 clear hx hin hs hv k P bm q R bk d o p M b z C g hr hh X G bs
 go_enter Tryz.func71,Tryz.ntmps71
 go_wp2_with fail
 refine (F.out W3 T.out).mono ?_
 rintro e w4 ⟨rfl,c⟩
 have l:=Xa (T.out.trans (c.mono (by omega)))
 have z4:=l.out.size
 have cj:=(Xc c (by omega)).trans r4
 clear c
 have bw:w4.cell? ⟨bi,oi+f,none⟩=some (.int .i64 (Xj (Xe ns) f)):=(Xc l.out bu).trans (y f j)
 have Z:=Xa (bp.out w4 l.out f (by rw[S.out,bv.out];exact j))
 obtain ⟨Q,hQ⟩:∃Q,Xj (Xe ns) f=Q:=⟨_,rfl⟩
 rw[hQ] at bw Z
 clear hQ y
 go_wp2_with fail
 refine Z.out.mono ?_
 rintro e w5 ⟨u,rfl,⟨a4,c4,rfl⟩,ba,c⟩
 have J:=Xa (l.out.trans (c.mono (by omega)))
 have bb:=Xa (J9 (bq.out _ J.out) ba)
 obtain ⟨L4,bc⟩:∃L4,(PL ns f).length=L4:=⟨_,rfl⟩
 rw[bc] at bb|-
 clear ba c bc
 go_wp2_with fail
 refine bb.out.mono ?_
 rintro e w6 ⟨sv,xs,rfl,bd,be,L⟩
 have bx:=Xa bd
 have bz:=Xa ((ButE.of_below J.out).trans be)
 have b0:=Xa (L.low (base':=w.heap.size) J.out.size hE)
 obtain ⟨a5,c5,rfl⟩:=L.slice
 clear bd be L
 go_wp2_with fail
 go_ret
 exact ⟨_,_,rfl,by rw[Y.out];exact bx.out,bz.out,by rw[Y.out];exact b0.out⟩


theorem Xop {B E fu:Nat} {fv v kc kn ki:Value} {fs:List FN} {x:FN} {ns:List VN} {w:World} (hx:NodeOk fs x) (k:x.kind=3) (hin:FNodeIn B w x kc kn ki) (hs:SE B E fv fs fu 0 w) (hv:NR E w v ns) (hr:(Xd ns).kind=5) (h1:x.place<0) (h2:x.place+((Xe ns).length:Int)<0):
  Calls Tryz.prog 71 #[.pointer (some ⟨E,0,none⟩),v,Ym x kc kn ki] w (Qv B E fv fs (Yp x ns).1 (Zd (Yp x ns)) fu w):=by
 obtain ⟨b1,o1,c1,S,T,bk,bl,aC,cC,aK,cK,aI,cI,NL,kr,nr,sr,KS,KM,kk,nm,V,rr,W1,W2,W3,rfl,rfl,rfl,rfl,X,f,s,t,Y,j,l,y,d,z,bm,bn,Z,bo,bp,ba,bq,hE,C,g,D,bb,br,bs,bt,bu,bc,bv,bd,bw,bx,be,f0,f1,f2,bz,b0,b2,r0,r1,r2,r3,r4,t0,t1,t2,t3,m0,m1,m2,m3,m4,bf,b3⟩:=Kl hx hin hs hv
 rw[z]
 have F:Z8 ns x.place=x.place+((Xe ns).length:Int):=by unfold Z8;rw[if_pos h1]
 have G:Hid (rr=(0,Ja)):=by rw[Hid];rw[bd.out k];unfold atR;rw[if_neg (by omega),if_pos hr,if_neg (by rw[F];omega)]
 have z1:((NL:Int)-1).toNat=NL-1:=by omega
 rw[j] at D
 unfold Ym
 rw[l,y,d]
 have e2:(kk==2)=false:=by rw[<-l,k];rfl
 rw[e2] at t0 Z
 obtain rfl:kr=5:=by rw[<-f,hr]
 obtain ⟨q,hq⟩:∃q,V+(KM:Int)=q:=⟨_,rfl⟩
 obtain ⟨c,b⟩:∃c,W3.setCell ⟨w.heap.size+2,2,none⟩ (.int .i64 q)=c:=⟨_,rfl⟩
 have J:Hid (Below w.heap.size w c):=by rw[Hid,<-b];exact bf.out.setCell (by simp) _
 have b4:c.heap.size=w.heap.size+3:=by rw[<-b];simp[be]
 have v0:c.cell? ⟨w.heap.size+2,0,none⟩=some (.bool false):=by rw[<-b,World.cell?_setCell_other (h:=by simp)];exact t0
 have v1:c.cell? ⟨w.heap.size+2,1,none⟩=some (.string nm):=by rw[<-b,World.cell?_setCell_other (h:=by simp)];exact t1
 have v2:c.cell? ⟨w.heap.size+2,2,none⟩=some (.int .i64 q):=by rw[<-b];exact World.cell?_setCell_same _ _ _ t2
 have x0:c.cell? ⟨w.heap.size+1,0,none⟩=some (.int .i64 5):=by rw[<-b,World.cell?_setCell_other (h:=by simp)];exact r0
 have x1:c.cell? ⟨w.heap.size+1,1,none⟩=some (.int .i64 nr):=by rw[<-b,World.cell?_setCell_other (h:=by simp)];exact r1
 have x2:c.cell? ⟨w.heap.size+1,2,none⟩=some (.string sr):=by rw[<-b,World.cell?_setCell_other (h:=by simp)];exact r2
 have x3:c.cell? ⟨w.heap.size+1,3,none⟩=some (.slice S KS T):=by rw[<-b,World.cell?_setCell_other (h:=by simp)];exact r3
 have x4:=r4
 rw[<-World.cell?_setCell_other (v:= .int .i64 q) (a:=⟨w.heap.size+2,2,none⟩) (h:=by simp),b] at x4
 have b5:V<0:=by rw[<-d];exact h1
 have b6: -80<=V:=by have:=g k;omega
 have b7:q<0:=by rw[<-hq,<-d,<-j];rw[bb.out] at h2;exact h2
 have b8:¬(0<=q):=by omega
 clear hx hin hs hv k z ba C g X f s t Y j l y d hr F h1 h2
 go_enter Tryz.func71,Tryz.ntmps71
 go_wp2_with fail
 refine (Xad E c (by omega)).mono ?_
 rintro e w6 ⟨u,rfl,⟨a6,c6,rfl⟩,L,M⟩
 have o:=Xa (J.out.trans (M.mono (by omega)))
 have bg:=Xa (J9 (bc.out _ o.out) L)
 clear L M
 go_wp2_with fail
 refine bg.out.mono ?_
 rintro e w5 ⟨sv,xs,rfl,P,R,p⟩
 have bh:=Xa P
 have bi:=Xa ((ButE.of_below o.out).trans R)
 have bj:=Xa (p.low (base':=w.heap.size) o.out.size hE)
 obtain ⟨a5,c5,rfl⟩:=p.slice
 clear P R p
 go_wp2_with fail
 go_ret
 exact ⟨_,_,rfl,by rw[G.out];exact bh.out,bi.out,by rw[G.out];exact bj.out⟩
end Go.Proofs.YtdjddneidbddpaaGreatDoor
