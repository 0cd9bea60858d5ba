import Derived.Test.YtdjddneidbddpaaGreatDoorSeN
import Derived.Test.YtdjddneidbddpaaGreatDoorSeF
import Derived.Test.YtdjddneidbddpaaGreatDoorSPlsL
import Derived.Test.YtdjddneidbddpaaGreatDoorSPlsN
import Derived.Test.YtdjddneidbddpaaGreatDoorSSort
import Derived.Test.YtdjddneidbddpaaGreatDoorLowN
import Derived.Test.YtdjddneidbddpaaGreatDoorSeQ
import Derived.Test.YtdjddneidbddpaaGreatDoorEvY
import Derived.Test.YtdjddneidbddpaaGreatDoorSeM
import Derived.Test.YtdjddneidbddpaaGreatDoorSGot
import Derived.Test.YtdjddneidbddpaaGreatDoorPsZ
namespace Go.Proofs.YtdjddneidbddpaaGreatDoor
set_option linter.unusedSectionVars false
set_option maxHeartbeats 6400000
open Go.RowKit
set_option linter.unusedSimpArgs false
set_option linter.unusedVariables false
theorem NR.sized {E:Nat} {w:World} {v:Value} {vs:List VN} (h:NR E w v vs):1<=vs.length/\vs.length<=80:=(Xm h.ok).1
theorem NR.below {E:Nat} {w w':World} {v:Value} {vs:List VN} (h:NR E w v vs) (hb:Below w.heap.size w w'):NR E w' v vs:=h.keep (Below.keepN hb)
theorem NR.but {E:Nat} {w w':World} {v:Value} {vs:List VN} (h:NR E w v vs) (hb:ButE E w w'):NR E w' v vs:=h.keep hb.keepN
theorem Xez {vs:List VN} (ok:okB vs=true):1<=(Xd vs).kind/\(Xd vs).kind<=6:=by
 have:=Jw ok
 omega
def Made1 (E:Nat) (r:Int×List VN) (w:World) (e:Ending) (w':World):Prop:=
 ∃u,e= .returned (.tuple #[u, .int .i64 r.1])/\(∃a n c,u= .slice a n c)/\(r.1=0->NR E w' u r.2)/\Below w.heap.size w w'
theorem Xe0 {E base:Nat} {w w':World} {c:Int} {ns:List VN} {e:Ending} {r:Value} {KV IV:Nat->Value} (he:e= .returned (.tuple #[r, .int .i64 c])) (hb:w.heap.size<=base) (hn:Nest base w' r ns KV IV) (hbl:Below w.heap.size w w') (hE:E<w.heap.size) (ok:c=0->okB ns=true):Made1 E (c,ns) w e w':=by
 obtain ⟨a,k,b⟩:=Xg hn.row
 exact ⟨r,he,⟨a,_,k,b⟩,fun hc=>NR.made hn (ok hc) (by omega),hbl⟩
theorem Xv5 {E:Nat} {u v:Value} {us vs:List VN} {w:World} (hu:NR E w u us) (hv:NR E w v vs) (hE:E<w.heap.size):Calls Tryz.prog 131 #[u,v] w (Made1 E (Qk us vs,Zt us vs) w):=by
 have key:Calls Tryz.prog 131 #[u,v] w fun e c=>∃r b f g,e= .returned (.tuple #[r, .int .i64 (Qk us vs)])/\w.heap.size<=b/\Nest b c r (Zt us vs) f g/\Below w.heap.size w c:=by
  by_cases h5:(Xd us).kind=5/\(Xd vs).kind=5
  ·exact Xqu w.heap.size _ _ us vs w hu.nodes hv.nodes (Nat.le_refl _) hu.ok hv.ok h5.1 h5.2
  ·by_cases h6:(Xd us).kind=6/\(Xd vs).kind=6
   ·exact Xt6 w.heap.size _ _ us vs w hu.nodes hv.nodes (Nat.le_refl _) hu.ok hv.ok h6.1 h6.2
   ·exact Xrt w.heap.size _ _ us vs w hu.nodes hv.nodes (Nat.le_refl _) hu.ok hv.ok (by omega)
 refine key.mono ?_
 rintro e c ⟨r,b,f,g,j,l,o,d⟩
 exact Xe0 j l o d hE Xj1
theorem Xto {E:Nat} {u v:Value} {us vs:List VN} {w:World} (hu:NR E w u us) (hv:NR E w v vs) (hE:E<w.heap.size):Calls Tryz.prog 132 #[u,v] w (Made1 E (V0 us vs,Ki us vs) w):=by
 have key:Calls Tryz.prog 132 #[u,v] w fun e c=>∃r b f g,e= .returned (.tuple #[r, .int .i64 (V0 us vs)])/\w.heap.size<=b/\Nest b c r (Ki us vs) f g/\Below w.heap.size w c:=by
  by_cases h5:(Xd us).kind=5/\(Xd vs).kind=5
  ·exact Xpz w.heap.size _ _ us vs w hu.nodes hv.nodes (Nat.le_refl _) hu.ok hv.ok h5.1 h5.2
  ·exact Xpw w.heap.size _ _ us vs w hu.nodes hv.nodes (Nat.le_refl _) hu.ok hv.ok h5
 refine key.mono ?_
 rintro e c ⟨r,b,f,g,j,l,o,d⟩
 exact Xe0 j l o d hE Xoa
theorem Xzn {E:Nat} {v:Value} {vs:List VN} {w:World} (hv:NR E w v vs) (hE:E<w.heap.size):Calls Tryz.prog 78 #[v] w (Made1 E (Xax vs,Gy vs) w):=by
 refine (Xoh w.heap.size v vs w hv.nodes (Nat.le_refl _) hv.ok).mono ?_
 rintro e o ⟨r,c,p,q,d,g,f,b⟩
 have j:Xax vs=Xio (Zm (Xd vs)):=by unfold Xax;rw[if_pos hv.ok]
 have l:Gy vs=Xmq (Zm (Xd vs)):=by unfold Gy;rw[if_pos hv.ok]
 rw[<-j] at d
 rw[<-l] at f
 exact Xe0 d g f b hE (Xww hv.ok)
theorem Xzo {E:Nat} {u v:Value} {us vs:List VN} {w:World} (hu:NR E w u us) (hv:NR E w v vs):Calls Tryz.prog 130 #[u,v] w fun e w'=>e= .returned (.int .i64 (Za us vs))/\Below w.heap.size w w':=by
 rw[Xae hu.ok hv.ok]
 exact Xen w.heap.size u v us vs w ⟨hu.nodes,hv.nodes,(Xm hu.ok).2.1,(Xm hv.ok).2.1⟩ (Nat.le_refl _) hu.sized hv.sized
def Xh9 (E:Nat) (ns:List VN) (w:World) (e:Ending) (w':World):Prop:=∃u,e= .returned u/\(∃a c,u= .slice a ns.length c)/\NR E w' u ns/\Below w.heap.size w w'
theorem Xkw (E:Nat) (b:Bool) (w:World) (hE:E<w.heap.size):Calls Tryz.prog 80 #[.bool b] w (Xh9 E (Jc b) w):=by
 refine (Xxc b w).mono ?_
 rintro e g ⟨c,d,f⟩
 exact ⟨_,c,⟨_,_,rfl⟩,NR.made d (Xga b) hE,f⟩
theorem Xaf (E:Nat) (w:World) (hE:E<w.heap.size):Calls Tryz.prog 55 #[] w (Xh9 E Jd w):=by
 refine (Xxb w).mono ?_
 rintro e f ⟨b,c,d⟩
 exact ⟨_,b,⟨_,_,rfl⟩,NR.made c Xbe hE,d⟩
theorem Xcc {E:Nat} {v:Value} {vs:List VN} {w:World} (hv:NR E w v vs):Calls Tryz.prog 77 #[v] w fun e w'=>e= .returned (.bool (Xu vs))/\Below w.heap.size w w':=Xvm w.heap.size v vs w hv.nodes (Nat.le_refl _) hv.ok
theorem Ur {E base:Nat} {v:Value} {ns:List VN} {w:World} {KV IV:Nat->Value} (hn:Nest base w v ns KV IV) (hE:E<base) (hl:ns.length<=1759218604416) (hf:∀i,i<ns.length->Fits (Xb ns i)):Calls Tryz.prog 74 #[v] w (Made1 E (Yp ns) w):=by
 have f:=hn.nodes hl hf
 unfold Yp
 cases ok:okB ns
 ·rw[if_neg (by simp)]
  refine (Gl w.heap.size v ns w f (Nat.le_refl _) ok).mono ?_
  rintro e g ⟨d,b⟩
  exact ⟨_,d,⟨_,_,_,rfl⟩,fun h=>absurd h (by decide),b⟩
 ·rw[if_pos rfl]
  refine (Vo w.heap.size v ns w f (Nat.le_refl _) ok).mono ?_
  rintro e g ⟨d,b⟩
  obtain ⟨a,c,j⟩:=Xg hn.row
  exact ⟨_,d,⟨a,_,c,j⟩,fun _=>NR.made (hn.below b) ok hE,b⟩
theorem Xag {E base B:Nat} {w:World} {kv sv:Value} {xs:List Value} {keys:List ByteArray} {l:List (List VN)} (kind:Int) (h1:1<=kind) (h6:kind<=6) (hl:LR E base w sv xs l) (hm:l.length<=200) (hk:StrsAt B w kv keys) (hB:B<=w.heap.size) (hkn:keys.length<=200) (hks:∀i,i<keys.length->(Xf keys i).size<=140737488355328):
  Calls Tryz.prog 75 #[.int .i64 kind,kv,sv] w fun e w'=>∃r KV IV,e= .returned r/\Nest w.heap.size w' r (Yj kind keys (Xn l) l.length) KV IV/\Below w.heap.size w w'/\(Yj kind keys (Xn l) l.length).length<=16001/\∀i,i<(Yj kind keys (Xn l) l.length).length->Fits (Xb (Yj kind keys (Xn l) l.length) i):=by
 have b:=hl.oks
 have c:=Gd (L:=Xn l) (m:=l.length) hm b (fun i hi=>Ug (b i hi)) (kind:=kind) h1 h6 (keys:=keys) hkn hks
 have f:=Vh b l.length (Nat.le_refl _)
 have d:l.length *80<=16000:=by omega
 refine (Xa9 w.heap.size kind kv sv keys l.length (Xn l) w (hk.wide hB) (hl.rows (by omega)) (Nat.le_refl _) (by omega) (by omega) (by omega) (Xc9 b)).mono ?_
 rintro e w' ⟨r,KV,IV,g,j,o⟩
 exact ⟨r,KV,IV,g,j,o,c.1,fun i hi=>(c.2 i hi).1⟩
theorem Xtp {E:Nat} {v:Value} {ns:List VN} {w:World} (hv:NR E w v ns) (hE:E<w.heap.size):Calls Tryz.prog 72 #[v] w fun e w'=>∃sv xs,e= .returned sv/\LR E w.heap.size w' sv xs (Yo ns)/\Below w.heap.size w w':=by
 refine (Kp w.heap.size v ns w hv.nodes (Nat.le_refl _) hv.ok).mono ?_
 rintro e w' ⟨r,c,p,q,s,f,b,g⟩
 have d:(Yo ns).length=(Xe ns).length:=by simp[Yo]
 refine ⟨r,_,f,⟨by rw[d];exact b.row,hE,fun j hj=> ?_⟩,g⟩
 rw[d] at hj
 have l:((List.range (Xe ns).length).map c).getD j undef=c j:=by
  rw[List.getD_eq_getElem?_getD,List.getElem?_map,List.getElem?_range hj];rfl
 have o:Xn (Yo ns) j=PL ns j:=by
  unfold Xn Yo
  rw[List.getD_eq_getElem?_getD,List.getElem?_map,List.getElem?_range hj]
  rfl
 rw[l,o]
 exact NR.made (b.nest j hj) (Xgb hv.ok hj) (Nat.lt_of_lt_of_le hE (b.low j (by omega)))


set_option maxRecDepth 100000 in
theorem Xpj {B E:Nat} {fv:Value} {fs:List FN} {fu:Nat} {c:Int} {w:World} (n:Int) (a:Option Addr) (l cp:Nat) (h:SE B E fv fs fu c w) (hc:c≠0):
  Calls Tryz.prog 35 #[.pointer (some ⟨E,0,none⟩), .int .i64 n, .slice a l cp] w fun e w'=>e= .returned (.slice none 0 0)/\w'=w:=by
 obtain ⟨_,_,f,_,g⟩:=h.cells
 clear h
 have b:(c !=0)=true:=by simpa using hc
 have d:(c==0)=false:=by simpa using hc
 clear hc
 go_enter Tryz.func35,Tryz.ntmps35
 go_wp2_with fail
 go_ret
 exact ⟨rfl,rfl⟩
set_option maxRecDepth 100000 in
theorem Xpk {B E M:Nat} {fv:Value} {fs:List FN} {w:World} {l:List (List VN)} (n:Int) (a:Option Addr) (k cp:Nat) (h:SE B E fv fs 0 0 w):
  Calls Tryz.prog 35 #[.pointer (some ⟨E,0,none⟩), .int .i64 n, .slice a k cp] w (RunAns B E M fv fs 4 l 0 w):=by
 have b:=Xa (h.set 4)
 have c:Hid (E<w.heap.size):=h.lt
 obtain ⟨_,c1,f,_,g⟩:=h.cells
 have d:w.cell? ⟨E,1,none⟩=some (.int .i64 0):=c1
 clear h c1
 go_enter Tryz.func35,Tryz.ntmps35
 go_wp2_with fail
 go_ret
 exact ⟨_,_,[],rfl,b.out.1,b.out.2,LR.nil c.out,fun e=>absurd e (by decide),Nat.zero_le _⟩
structure Pre (B E:Nat) (fv:Value) (fs:List FN) (j:Nat) (x:FN) (n:Nat) (w W1 W2 W3:World) (b0 o0 cap:Nat) (aC:Option Addr) (cC:Nat) (aK:Option Addr) (cK:Nat) (aI:Option Addr) (cI:Nat):Prop where
 hfv:fv= .slice (some ⟨b0,o0,none⟩) fs.length cap
 q0:w.cell? ⟨E,0,none⟩=some (.slice (some ⟨b0,o0,none⟩) fs.length cap)
 q1:w.cell? ⟨E,1,none⟩=some (.int .i64 ((j:Int)+1))
 q2:w.cell? ⟨E,2,none⟩=some (.int .i64 0)
 z1:w.frozen? ⟨E,1,none⟩=false
 e1:w.setCell ⟨E,1,none⟩ (.int .i64 (j:Int))=W1
 p0:W1.cell? ⟨E,0,none⟩=some (.slice (some ⟨b0,o0,none⟩) fs.length cap)
 s0:W1.cell? ⟨b0,o0+n *6,none⟩=some (.int .i64 x.kind)
 s1:W1.cell? ⟨b0,o0+n *6+1,none⟩=some (.string x.name)
 s2:W1.cell? ⟨b0,o0+n *6+2,none⟩=some (.int .i64 x.place)
 s3:W1.cell? ⟨b0,o0+n *6+3,none⟩=some (.slice aC x.cst.length cC)
 s4:W1.cell? ⟨b0,o0+n *6+4,none⟩=some (.slice aK x.names.length cK)
 s5:W1.cell? ⟨b0,o0+n *6+5,none⟩=some (.slice aI x.kids.length cI)
 e2:W1.alloc (.cells #[.int .i64 x.kind, .string x.name, .int .i64 x.place, .slice aC x.cst.length cC, .slice aK x.names.length cK, .slice aI x.kids.length cI] 84)=W2
 e3:W2.alloc (.cells #[] 25)=W3
 g1:W1.heap.size=w.heap.size
 g2:W2.heap.size=w.heap.size+1
 g3:W3.heap.size=w.heap.size+2
 se:SE B E fv fs j 0 W3
 but:ButE E w W2
 bu3:Below W2.heap.size W2 W3
 box:NodeBox B W2 w.heap.size x (.slice aC x.cst.length cC) (.slice aK x.names.length cK) (.slice aI x.kids.length cI)
 hE:E<w.heap.size
 hB:B<=E
theorem Ql {B E j n:Nat} {fv:Value} {fs:List FN} {x:FN} {w:World} (h:SE B E fv fs (j+1) 0 w) (hn:n<fs.length) (hx:Xo fs n=x):∃W1 W2 W3 b0 o0 cap aC cC aK cK aI cI,Pre B E fv fs j x n w W1 W2 W3 b0 o0 cap aC cC aK cK aI cI:=by
 have J:=h.lt
 have G:=h.hBE
 obtain ⟨L,a,cap,e,l⟩:=h.nodes
 obtain ⟨b0,o0,M,D,P⟩:=l (by omega)
 subst M
 obtain ⟨Y,Z,ki,f⟩:=P n hn
 rw[hx] at f
 obtain ⟨c0,c1,R,S,f2⟩:=h.cells
 obtain ⟨W1,o⟩:∃W1,w.setCell ⟨E,1,none⟩ (.int .i64 (j:Int))=W1:=⟨_,rfl⟩
 have d:=h.setFu j
 rw[o] at d
 have p:W1.heap.size=w.heap.size:=by rw[<-o];simp
 have b:=f.below (d.2.below G (by omega)) D
 obtain ⟨_,aC,cC,T,_⟩:=id b.inn.cst
 obtain ⟨_,_,aK,cK,V,_⟩:=id b.inn.names
 obtain ⟨_,_,aI,cI,X,_⟩:=id b.inn.kids
 subst T V X
 obtain ⟨W2,g⟩:∃W2,W1.alloc (.cells #[.int .i64 x.kind, .string x.name, .int .i64 x.place, .slice aC x.cst.length cC, .slice aK x.names.length cK, .slice aI x.kids.length cI] 84)=W2:=⟨_,rfl⟩
 obtain ⟨W3,q⟩:∃W3,W2.alloc (.cells #[] 25)=W3:=⟨_,rfl⟩
 have t:W2.heap.size=w.heap.size+1:=by rw[<-g,<-p];simp
 have F:W3.heap.size=w.heap.size+2:=by rw[<-q];simp[t]
 have s:Below W1.heap.size W1 W2:=by rw[<-g];exact (Below.refl _ _).alloc (Nat.le_refl _) _
 have y:Below W2.heap.size W2 W3:=by rw[<-q];exact (Below.refl _ _).alloc (Nat.le_refl _) _
 have c:W2.heap[w.heap.size]? =some (.cells #[.int .i64 x.kind, .string x.name, .int .i64 x.place, .slice aC x.cst.length cC, .slice aK x.names.length cK, .slice aI x.kids.length cI] 84 (0,0)):=by rw[<-g,<-p];exact heap_alloc_new W1 _
 have z:=d.1.below s
 have C:=z.below y
 exact ⟨W1,W2,W3,b0,o0,cap,aC,cC,aK,cK,aI,cI,⟨e,by rw[c0,e],by rw[c1];rfl,R,S,o,by have:=d.1.cells.1;rw[this,e],b.c0,b.c1,b.c2,b.c3,b.c4,b.c5,g,q,p,t,F,C,d.2.trans (.of_below s),y,
  ⟨Xw c 0,Xw c 1,Xw c 2,Xw c 3,Xw c 4,Xw c 5,b.inn.below (s.mono (by omega))⟩,J,G⟩⟩
theorem Qx {B E M:Nat} {fv:Value} {fs:List FN} {R:Int×Xs} {c:Int} {fu:Nat} {m:List (List VN)} {w w' W2:World} {e:Ending} {sv:Value} {xs:List Value} {base:Nat} (he:e= .returned sv) (hn:Now R Yi c fu m) (hs:SE B E fv fs fu c w') (h1:ButE E w W2) (h2:ButE E W2 w') (hl:LR E base w' sv xs m) (hb:w.heap.size<=base) (hE:E<w.heap.size) (hm:m.length<=M):RunAns B E M fv fs R.1 R.2.2 R.2.1 w e w':=by
 obtain ⟨b,d,f⟩:=hn.fin
 subst b d
 exact ⟨sv,xs,m,he,hs,h1.trans h2,hl.low hb hE,f,hm⟩
theorem Vi {B E M:Nat} {fv:Value} {fs:List FN} {R:Int×Xs} {c:Int} {fu:Nat} {m:List (List VN)} {w w' W2 W3:World} {e:Ending} (ha:Qy B E fv fs c m fu W3 e w') (hn:Now R Yi c fu m) (h1:ButE E w W2) (h2:ButE E W2 W3) (hE:E<w.heap.size) (hm:m.length<=M):RunAns B E M fv fs R.1 R.2.2 R.2.1 w e w':=by
 obtain ⟨j,l,b,d,f,g⟩:=ha
 exact Qx b hn d h1 (h2.trans f) g (Nat.le_trans h1.size h2.size) hE hm
theorem X1q (a b c:Value) (w:World):(callFunc 35 #[a,b,c]).run Tryz.prog w= .ok (.enter 35 #[a,b,c]) w:=by kernel_rfl


theorem Xln {E base m:Nat} {w:World} {v:Value} {rs:Nat->Value} {KV IV:Nat->Nat->Value} {lo:Nat->Nat} {l:List (List VN)} (h:Rows2 base w v m (Xn l) rs KV IV lo) (hm:l.length=m) (hE:E<base) (hok:∀j,j<m->okB (Xn l j)=true):LR E base w v ((List.range m).map rs) l:=by
 subst hm
 refine ⟨h.row,hE,fun j hj=> ?_⟩
 have b:((List.range l.length).map rs).getD j undef=rs j:=by
  rw[List.getD_eq_getElem?_getD,List.getElem?_map,List.getElem?_range hj];rfl
 rw[b]
 exact NR.made (h.nest j hj) (hok j hj) (Nat.lt_of_lt_of_le hE (h.low j (by omega)))
theorem StrsAt.nil (B:Nat) (w:World):StrsAt B w (.slice none 0 0) []:=⟨by simp,fun i hi=>absurd hi (by simp),none,0,rfl,fun h=>absurd h (by simp)⟩
set_option maxRecDepth 100000 in
theorem Xyj {E:Nat} {v:Value} {ns:List VN} {w:World} (hv:NR E w v ns) (hE:E<w.heap.size):Calls Tryz.prog 79 #[v] w (Made1 E (Vc ns) w):=by
 obtain ⟨ck,cl⟩:=hv.sized
 have z:=hv.ok
 have cv:=Xa z
 have cm:=(Xm z).2.1 (ns.length-1) (by omega)
 have bm:=Xa (Jw z)
 obtain ⟨_,b0,o0,c0,rfl,cw,hc⟩:∃(_:ns.length<=1759218604416) (b o c:Nat),v= .slice (some ⟨b,o,none⟩) ns.length c/\b<w.heap.size/\∃ka ki,NodeAt w.heap.size w b (o+(ns.length-1) *5) (Xb ns (ns.length-1)) ka ki:=by
  obtain ⟨hl,a,c,e,hx⟩:=hv.nodes
  obtain ⟨b,o,ea,hb,cn⟩:=hx (by omega)
  exact ⟨hl,b,o,c,by rw[e,ea],hb,cn _ (by omega)⟩
 obtain ⟨ka,ki,hn⟩:=hc
 obtain ⟨cu,bj,aK,cK,rfl,b4⟩:=hn.inn.keys
 obtain ⟨_,_,aI,cI,rfl,_⟩:=hn.inn.kids
 have bn:=Xa b4
 have d0:=hn.c0
 have d1:=hn.c1
 have d2:=hn.c2
 have d3:=hn.c3
 have d4:=hn.c4
 have b5:(Xb ns (ns.length-1)).kids.length<=80:=by have:=(Xm z).2.2.2 (ns.length-1) (by omega);omega
 have b6:(Xd ns).kind=6->(Xb ns (ns.length-1)).keys.length=(Xb ns (ns.length-1)).kids.length/\∀i,i<(Xb ns (ns.length-1)).keys.length->Z6 (Xf (Xb ns (ns.length-1)).keys i)=true:=fun k=>⟨(Y1 z k).1,fun i hi=>(Xss (Y1 z k).2 hi).1⟩
 have J:=Xa b6
 have S:=Xa (fun a=>Xhr z a)
 have L:Hid ((Xe ns).length=(Xb ns (ns.length-1)).kids.length/\(Xd ns).keys=(Xb ns (ns.length-1)).keys):=⟨rfl,rfl⟩
 have T:Hid (∀j,(Xd ns).kind=5->j<(Xe ns).length->Xn (Vw ns) j=Xr 3 (j:Int) ByteArray.empty):=fun j a b=>Xpf a b
 have M:Hid (∀j,(Xd ns).kind=6->j<(Xd ns).keys.length->Xn (Vw ns) j=Xr 4 0 (Xf (Xd ns).keys j)):=fun j a b=>Xll a b
 have HR:Hid (Vc ns=if (Xd ns).kind=5\/(Xd ns).kind=6 then Yp (Zo (Vw ns)) else (2,[])):=rfl
 obtain ⟨r,hr⟩:∃r,Vc ns=r:=⟨_,rfl⟩
 rw[hr] at HR|-
 obtain ⟨q,b7⟩:∃q,Vw ns=q:=⟨_,rfl⟩
 rw[b7] at HR S T M
 obtain ⟨x,hx⟩:∃x,Xb ns (ns.length-1)=x:=⟨_,rfl⟩
 have b8:Xd ns=x:=hx
 rw[hx] at d0 d1 d2 d3 d4 b5 bn J L bj
 rw[b8] at HR S T M J bm L
 obtain ⟨V,bo⟩:∃V,x.kids.length=V:=⟨_,rfl⟩
 obtain ⟨KS,bp⟩:∃KS,x.keys.length=KS:=⟨_,rfl⟩
 have cx:=Xa bp
 have cy:=Xa bo
 rw[bo] at d4 b5 J L
 rw[bp] at d3 J bn M bj
 obtain ⟨kx,bq⟩:∃k,x.kind=k:=⟨_,rfl⟩
 rw[bq] at d0 HR S T M J bm
 obtain ⟨i0,b9,ca,cb,cc⟩:=info_parts Ka
 obtain ⟨NL,cd⟩:∃NL,ns.length=NL:=⟨_,rfl⟩
 rw[cd] at ck cl d0 d1 d2 d3 d4|-
 have z1:((NL:Int)-1).toNat=NL-1:=by omega
 obtain ⟨P,br⟩:∃P,w.alloc (.cells #[.int .i64 kx, .int .i64 x.n, .string x.s, .slice aK KS cK, .slice aI V cI] 75)=P:=⟨_,rfl⟩
 obtain ⟨W2,bs⟩:∃W2,P.alloc (.cells #[] 25)=W2:=⟨_,rfl⟩
 have ce:P.heap.size=w.heap.size+1:=by rw[<-br];simp
 have cz:W2.heap.size=w.heap.size+2:=by rw[<-bs];simp[ce]
 have bg:Hid (Below w.heap.size w P):=by rw[Hid,<-br];exact (Below.refl _ _).alloc (Nat.le_refl _) _
 have t:Hid (Below (w.heap.size+1) P W2):=by rw[Hid,<-bs];exact (Below.refl _ _).alloc (by omega) _
 have cp:Hid (Below w.heap.size w W2):=bg.out.trans (t.out.mono (by omega))
 have G:P.heap[w.heap.size]? =some (.cells #[.int .i64 kx, .int .i64 x.n, .string x.s, .slice aK KS cK, .slice aI V cI] 75 (0,0)):=by rw[<-br];exact heap_alloc_new w _
 have X:Hid (∀Y,Below (w.heap.size+1) P Y->Y.cell? ⟨w.heap.size,0,none⟩=some (.int .i64 kx)/\Y.cell? ⟨w.heap.size,3,none⟩=some (.slice aK KS cK)/\Y.cell? ⟨w.heap.size,4,none⟩=some (.slice aI V cI)):=fun Y hY=>⟨(Xc hY (by omega)).trans (Xw G 0),(Xc hY (by omega)).trans (Xw G 3),(Xc hY (by omega)).trans (Xw G 4)⟩
 have x0:=(X.out _ t.out).1
 have x3:=(X.out _ t.out).2.1
 have x4:=(X.out _ t.out).2.2
 have cf:Hid (Rows2 (w.heap.size+1) W2 (.slice (some ⟨w.heap.size+1,0,none⟩) 0 0) 0 (Xn q) (fun _=>undef) (fun _ _=>undef) (fun _ _=>undef) (fun _=>w.heap.size+1)):=by rw[Hid,<-bs,<-ce];exact Rows2.start (World.ownsRow_lit P #[] 0 (Nat.le_refl _) (by simp[maxLen]) rfl) (by simp) _
 have bh:Hid (E<w.heap.size):=hE
 have cq:Hid (∀(b o:Nat),aK=some ⟨b,o,none⟩->True):=fun _ _ _=>trivial
 clear hv z cm hn hx b8 hr b7 bo bp bq cd G b6 b4 hE cq
 by_cases k6:kx=6
 ·subst k6
  obtain ⟨cg,ch⟩:=J.out rfl
  have cr:=Xa ch
  have R:Hid (r=Yp (Zo q)):=by rw[Hid,HR.out,if_pos (.inr rfl)]
  have Z:Hid (q.length=KS):=by rw[Hid,S.out (.inr rfl),L.out.1,cg]
  subst cg
  clear ch
  go_enter Tryz.func79,Tryz.ntmps79
  go_wp2_with fail
  go_loopw [5,6] (fun o i wr=>∃(k:Nat) (rs:Nat->Value) (KV IV:Nat->Nat->Value) (lo:Nat->Nat),k<=KS/\i= .int .i64 k/\Rows2 (w.heap.size+1) wr o k (Xn q) rs KV IV lo/\Below (w.heap.size+1) P wr) (fun _ i _=>KS-(intOf i).toNat)
  case atStart=>exact ⟨0,_,_,_,_,Nat.zero_le _,rfl,cf.out,t.out⟩
  case round=>
   obtain ⟨k,rs,KV,IV,lo,hk,rfl,f,p⟩:=hrel
   have D:=Xa f
   have ba:=Xa p
   have zs:=p.size
   obtain ⟨ao,co,eo⟩:=Xg f.row
   subst eo
   obtain ⟨y0,y3,y4⟩:=X.out wr p
   clear f
   by_cases hlt:k<KS
   ·obtain ⟨bk,ok,rfl,cs,ci⟩:=bn.out (by omega)
    have ct:wr.cell? ⟨bk,ok+k,none⟩=some (.string (Xf x.keys k)):=(Xc p (by omega)).trans ((Xc bg.out cs).trans (ci k hlt))
    have bi:Hid (Xr 4 0 (Xf x.keys k)=Xn q k):=by rw[Hid,M.out k (by simp) hlt]
    obtain ⟨ky,cj⟩:∃ky,Xf x.keys k=ky:=⟨_,rfl⟩
    rw[cj] at ct bi
    clear ci p cj
    go_wp2_with fail
    refine (Xxd ky wr).mono ?_
    rintro e w3 ⟨rfl,g,d⟩
    rw[bi.out] at g
    have bt:=Xa g
    have y:=Xa d
    have z3:=d.size
    have B:=Xa (D.out.below d).row
    clear g d
    go_wp2_with (at_builtin;refine wpList_append_own_at _ rfl _ _ 28 rfl (w.heap.size+1) 25 i0 (.slice none 0 0) 1 24 Tryz.underlying28 b9 ca cb cc rfl (by decide) _ _ _ rfl (B.out.alloc _) ⟨w3.heap.size,0,none⟩ 1 1 [.slice (some ⟨wr.heap.size,0,none⟩) 1 1] rfl rfl ?c1 ?c2 ?c3 ?c4 ?c5 ?_)
    case c1=>exact cell_one_new _ _ _
    case c2=>intro u hu;simp at hu;subst hu;rfl
    case c3=>unfold maxLen;omega
    case c4=>omega
    case c5=>simp;omega
    intro v' w5 C l _ _
    have bu:=Xa (D.out.snoc y.out bt.out C l)
    have bv:Hid (Below (w.heap.size+1) P w5):=((ba.out.trans (y.out.mono (by omega))).alloc (by omega) _).grown l (by simp;omega) (fun x hx=>(B.out.lt x hx).1)
    clear C l
    go_wp2_with fail
    go_roundw
    case rel=>exact ⟨k+1,_,_,_,_,by omega,by go_num,bu.out,bv.out⟩
    case measure=>simp[intOf];omega
   ·obtain rfl:k=KS:=by omega
    have bw:Hid (LR E (w.heap.size+1) wr (.slice ao k co) ((List.range k).map rs) q):=Xln D.out Z.out (by have:=bh.out;omega) (fun j hj=>by rw[M.out j (by simp) hj];exact Xsy (cr.out j hj))
    have bx:=Xa (Xag (kind:=5) (kv:= .slice none 0 0) (keys:= []) (by decide) (by decide) bw.out (by rw[Z.out];omega) (StrsAt.nil 0 wr) (Nat.zero_le _) (by simp) (fun i hi=>absurd hi (by simp)))
    clear p
    go_wp2_with fail
    refine bx.out.mono ?_
    rintro e w3 ⟨u,K,I,rfl,g,d,bz,bb⟩
    have bc:=Xa (Ur (E:=E) g (by have:=bh.out;omega) (by omega) bb)
    have y:=Xa (ba.out.trans (d.mono (by omega)))
    have z3:=d.size
    obtain ⟨a3,c3,e3⟩:=Xg g.row
    obtain ⟨L3,bd⟩:∃L3,(Yj 5 [] (Xn q) q.length).length=L3:=⟨_,rfl⟩
    have HQ:Hid (Yp (Yj 5 [] (Xn q) q.length)=r):=by rw[Hid,R.out];rfl
    rw[HQ.out] at bc
    rw[bd] at e3
    subst e3
    clear g d bz bb bd
    go_wp2_with fail
    refine bc.out.mono ?_
    rintro e w4 ⟨u4,rfl,⟨a4,l4,c4,rfl⟩,be,bf⟩
    have b1:=Xa be
    have b2:=Xa (bg.out.trans ((y.out.trans (bf.mono (by omega))).mono (by omega)))
    obtain ⟨rc,F⟩:∃rc,r.1=rc:=⟨_,rfl⟩
    have b3:=Xa F
    rw[F]
    clear be bf F
    go_wp2_with fail
    go_ret2
    exact ⟨.slice a4 l4 c4,by rw[b3.out];rfl,⟨a4,l4,c4,rfl⟩,b1.out,b2.out⟩
 ·by_cases k5:kx=5
  ·subst k5
   have R:Hid (r=Yp (Zo q)):=by rw[Hid,HR.out,if_pos (.inl rfl)]
   have Z:Hid (q.length=V):=by rw[Hid,S.out (.inl rfl),L.out.1]
   have bl:Hid ((Xe ns).length=V):=L.out.1
   clear k6
   go_enter Tryz.func79,Tryz.ntmps79
   go_wp2_with fail
   go_loopw [5,7] (fun o i wr=>∃(k:Nat) (rs:Nat->Value) (KV IV:Nat->Nat->Value) (lo:Nat->Nat),k<=V/\i= .int .i64 k/\Rows2 (w.heap.size+1) wr o k (Xn q) rs KV IV lo/\Below (w.heap.size+1) P wr) (fun _ i _=>V-(intOf i).toNat)
   case atStart=>exact ⟨0,_,_,_,_,Nat.zero_le _,rfl,cf.out,t.out⟩
   case round=>
    obtain ⟨k,rs,KV,IV,lo,hk,rfl,f,p⟩:=hrel
    have D:=Xa f
    have ba:=Xa p
    have zs:=p.size
    obtain ⟨ao,co,eo⟩:=Xg f.row
    subst eo
    obtain ⟨y0,y3,y4⟩:=X.out wr p
    clear f
    by_cases hlt:k<V
    ·have bi:Hid (Xr 3 (k:Int) ByteArray.empty=Xn q k):=by rw[Hid,T.out k (by simp) (by rw[bl.out];exact hlt)]
     clear p
     go_wp2_with fail
     refine (Xrl k wr).mono ?_
     rintro e w3 ⟨rfl,g,d⟩
     rw[bi.out] at g
     have bt:=Xa g
     have y:=Xa d
     have z3:=d.size
     have B:=Xa (D.out.below d).row
     clear g d
     go_wp2_with (at_builtin;refine wpList_append_own_at _ rfl _ _ 28 rfl (w.heap.size+1) 25 i0 (.slice none 0 0) 1 24 Tryz.underlying28 b9 ca cb cc rfl (by decide) _ _ _ rfl (B.out.alloc _) ⟨w3.heap.size,0,none⟩ 1 1 [.slice (some ⟨wr.heap.size,0,none⟩) 1 1] rfl rfl ?d1 ?d2 ?d3 ?d4 ?d5 ?_)
     case d1=>exact cell_one_new _ _ _
     case d2=>intro u hu;simp at hu;subst hu;rfl
     case d3=>unfold maxLen;omega
     case d4=>omega
     case d5=>simp;omega
     intro v' w5 C l _ _
     have bu:=Xa (D.out.snoc y.out bt.out C l)
     have bv:Hid (Below (w.heap.size+1) P w5):=((ba.out.trans (y.out.mono (by omega))).alloc (by omega) _).grown l (by simp;omega) (fun x hx=>(B.out.lt x hx).1)
     clear C l
     go_wp2_with fail
     go_roundw
     case rel=>exact ⟨k+1,_,_,_,_,by omega,by go_num,bu.out,bv.out⟩
     case measure=>simp[intOf];omega
    ·obtain rfl:k=V:=by omega
     have bw:Hid (LR E (w.heap.size+1) wr (.slice ao k co) ((List.range k).map rs) q):=Xln D.out Z.out (by have:=bh.out;omega) (fun j hj=>by rw[T.out j (by simp) (by rw[bl.out];exact hj)];exact Xim (by omega) (by omega))
     have bx:=Xa (Xag (kind:=5) (kv:= .slice none 0 0) (keys:= []) (by decide) (by decide) bw.out (by rw[Z.out];omega) (StrsAt.nil 0 wr) (Nat.zero_le _) (by simp) (fun i hi=>absurd hi (by simp)))
     clear p
     go_wp2_with fail
     refine bx.out.mono ?_
     rintro e w3 ⟨u,K,I,rfl,g,d,bz,bb⟩
     have bc:=Xa (Ur (E:=E) g (by have:=bh.out;omega) (by omega) bb)
     have y:=Xa (ba.out.trans (d.mono (by omega)))
     have z3:=d.size
     obtain ⟨a3,c3,e3⟩:=Xg g.row
     obtain ⟨L3,bd⟩:∃L3,(Yj 5 [] (Xn q) q.length).length=L3:=⟨_,rfl⟩
     have HQ:Hid (Yp (Yj 5 [] (Xn q) q.length)=r):=by rw[Hid,R.out];rfl
     rw[HQ.out] at bc
     rw[bd] at e3
     subst e3
     clear g d bz bb bd
     go_wp2_with fail
     refine bc.out.mono ?_
     rintro e w4 ⟨u4,rfl,⟨a4,l4,c4,rfl⟩,be,bf⟩
     have b1:=Xa be
     have b2:=Xa (bg.out.trans ((y.out.trans (bf.mono (by omega))).mono (by omega)))
     obtain ⟨rc,F⟩:∃rc,r.1=rc:=⟨_,rfl⟩
     have b3:=Xa F
     rw[F]
     clear be bf F
     go_wp2_with fail
     go_ret2
     exact ⟨.slice a4 l4 c4,by rw[b3.out];rfl,⟨a4,l4,c4,rfl⟩,b1.out,b2.out⟩
  ·have R:Hid (r=(2,[])):=by rw[Hid,HR.out,if_neg (by omega)]
   have q5:(kx==5)=false:=by simpa using k5
   have q6:(kx==6)=false:=by simpa using k6
   have bq:1<=kx/\kx<=4:=by have:=bm.out;omega
   clear k5 k6
   go_enter Tryz.func79,Tryz.ntmps79
   go_wp2_with fail
   go_ret2
   exact ⟨.slice none 0 0,by rw[R.out];rfl,⟨none,0,0,rfl⟩,fun h=>by rw[R.out] at h;exact absurd h (by decide),cp.out⟩


set_option maxRecDepth 100000 in
theorem X0k {B E d j n:Nat} {fv v:Value} {fs:List FN} {x:FN} {ns:List VN} {w:World} (hok:okF fs=true) (ho:Qi B E fv fs d) (hx:NodeOk fs x) (k:x.kind=1) (hn:n<fs.length) (hxn:Xo fs n=x) (hse:SE B E fv fs (j+1) 0 w) (hv:NR E w v ns) (hj:j<=d) (hd:d<=100000):
  Calls Tryz.prog 35 #[.pointer (some ⟨E,0,none⟩), .int .i64 n,v] w (RunAns B E (100 *(d+2)) fv fs (evM (Xh fs d) x ns Xl (j,[])).1 (evM (Xh fs d) x ns Xl (j,[])).2.2 (evM (Xh fs d) x ns Xl (j,[])).2.1 w):=by
 obtain ⟨W1,W2,V,b0,o0,X,aC,cC,aK,cK,aI,cI,Y⟩:=Ql hse hn hxn
 obtain ⟨q,Z,q1,q2,z1,ba,p0,s0,s1,s2,s3,s4,s5,s,bb,g1,g2,g3,g,f,b,c,J,hB⟩:=Y
 have t:=Xa g
 have y:=Xa f
 have z:=Xa b
 have bc:=Xa c
 have C:Hid (NR E V v ns):=(hv.but f).below b
 have bd:=Xa hv.ok
 have HO:=Xa ho
 have HX:=Xa hx
 have HE:=Xa J
 obtain ⟨av,cv,rfl⟩:=hv.slice
 obtain ⟨R,p⟩:∃R,evM (Xh fs d) x ns Xl (j,[])=R:=⟨_,rfl⟩
 have be:=Xa p
 rw[p]
 have D:(n:Int)<(fs.length:Int):=by omega
 have bf:¬((j:Int)+1=0):=by omega
 have bg:(j:Int)<=1000000:=by omega
 obtain ⟨L,l⟩:∃L,fs.length=L:=⟨_,rfl⟩
 rw[l] at Z p0 D hn
 have y0:=(Xc b (by omega)).trans c.c0
 have y1:=(Xc b (by omega)).trans c.c1
 have y2:=(Xc b (by omega)).trans c.c2
 have y3:=(Xc b (by omega)).trans c.c3
 have y4:=(Xc b (by omega)).trans c.c4
 have y5:=(Xc b (by omega)).trans c.c5
 obtain ⟨F,o⟩:∃F,x.kind=F:=⟨_,rfl⟩
 rw[o] at s0 s y0
 obtain rfl:F=1:=by omega
 have G:Hid (Now R Yi 0 j [ns]):=by
  have P:=Kj (r:=Yn x ns) (fu:=j) (R:=R) (by rw[<-p,Xbz (.inl k)])
  have h2:Yn x ns=(0,ns):=by unfold Yn;rw[if_neg (by omega),if_neg (by omega),if_neg (by omega),if_neg (by omega),if_neg (by omega),if_neg (by omega)]
  rw[h2] at P
  exact P
 clear hse hv ho hx hxn hok p q g f b c l o J hB k
 go_enter Tryz.func35,Tryz.ntmps35
 go_wp2_with fail
 refine (Kb t.out C.out).mono ?_
 rintro e w4 S
 have HA:=Xa (Vi (M:=100 *(d+2)) S G.out y.out (.of_below z.out) HE.out (by simp;omega))
 obtain ⟨sv,xs,rfl,-,-,T⟩:=S
 obtain ⟨a5,c5,rfl⟩:=T.slice
 clear T
 go_wp2_with fail
 go_ret
 exact HA.out
set_option maxRecDepth 100000 in
theorem Xwx {B E d j n:Nat} {fv v:Value} {fs:List FN} {x:FN} {ns:List VN} {w:World} (hok:okF fs=true) (ho:Qi B E fv fs d) (hx:NodeOk fs x) (k:x.kind=5) (hn:n<fs.length) (hxn:Xo fs n=x) (hse:SE B E fv fs (j+1) 0 w) (hv:NR E w v ns) (hj:j<=d) (hd:d<=100000):
  Calls Tryz.prog 35 #[.pointer (some ⟨E,0,none⟩), .int .i64 n,v] w (RunAns B E (100 *(d+2)) fv fs (evM (Xh fs d) x ns Xl (j,[])).1 (evM (Xh fs d) x ns Xl (j,[])).2.2 (evM (Xh fs d) x ns Xl (j,[])).2.1 w):=by
 obtain ⟨W1,W2,L,b0,o0,Z,aC,cC,aK,cK,aI,cI,hp⟩:=Ql hse hn hxn
 obtain ⟨s,q0,q1,q2,z1,ba,p0,s0,s1,s2,s3,s4,s5,t,bb,g1,g2,g3,g,f,b,c,P,S⟩:=hp
 have y:=Xa g
 have z:=Xa f
 have C:=Xa b
 have bc:=Xa c
 have bd:Hid (NR E L v ns):=(hv.but f).below b
 have be:=Xa hv.ok
 have HO:=Xa ho
 have HX:=Xa hx
 have HE:=Xa P
 obtain ⟨av,cv,rfl⟩:=hv.slice
 obtain ⟨R,q⟩:∃R,evM (Xh fs d) x ns Xl (j,[])=R:=⟨_,rfl⟩
 have bf:=Xa q
 rw[q]
 have D:(n:Int)<(fs.length:Int):=by omega
 have bg:¬((j:Int)+1=0):=by omega
 have bh:(j:Int)<=1000000:=by omega
 obtain ⟨T,l⟩:∃T,fs.length=T:=⟨_,rfl⟩
 rw[l] at q0 p0 D hn
 have y0:=(Xc b (by omega)).trans c.c0
 have y1:=(Xc b (by omega)).trans c.c1
 have y2:=(Xc b (by omega)).trans c.c2
 have y3:=(Xc b (by omega)).trans c.c3
 have y4:=(Xc b (by omega)).trans c.c4
 have y5:=(Xc b (by omega)).trans c.c5
 obtain ⟨F,o⟩:∃F,x.kind=F:=⟨_,rfl⟩
 rw[o] at s0 t y0
 have p:=(hx.cst k).2
 have G:Hid (NR E L (.slice aC x.cst.length cC) x.cst):=(NR.old (c.inn.cst) p S (by omega)).below b
 obtain rfl:F=5:=by omega
 have J:Hid (Now R Yi 0 j [x.cst]):=by
  have V:=Kj (r:=Yn x ns) (fu:=j) (R:=R) (by rw[<-q,Xbz (by omega)])
  have h2:Yn x ns=(0,x.cst):=by unfold Yn;rw[if_neg (by omega),if_neg (by omega),if_pos k]
  rw[h2] at V
  exact V
 clear hse hv ho hx hxn hok q s g f b c l o P S k p
 go_enter Tryz.func35,Tryz.ntmps35
 go_wp2_with fail
 refine (Kb y.out G.out).mono ?_
 rintro e w4 X
 have HA:=Xa (Vi (M:=100 *(d+2)) X J.out z.out (.of_below C.out) HE.out (by simp;omega))
 obtain ⟨sv,xs,rfl,-,-,Y⟩:=X
 obtain ⟨a5,c5,rfl⟩:=Y.slice
 clear Y
 go_wp2_with fail
 go_ret
 exact HA.out
set_option maxRecDepth 100000 in
theorem Xrg {B E d j n:Nat} {fv v:Value} {fs:List FN} {x:FN} {ns:List VN} {w:World} (hok:okF fs=true) (ho:Qi B E fv fs d) (hx:NodeOk fs x) (k:x.kind=11) (hn:n<fs.length) (hxn:Xo fs n=x) (hse:SE B E fv fs (j+1) 0 w) (hv:NR E w v ns) (hj:j<=d) (hd:d<=100000):
  Calls Tryz.prog 35 #[.pointer (some ⟨E,0,none⟩), .int .i64 n,v] w (RunAns B E (100 *(d+2)) fv fs (evM (Xh fs d) x ns Xl (j,[])).1 (evM (Xh fs d) x ns Xl (j,[])).2.2 (evM (Xh fs d) x ns Xl (j,[])).2.1 w):=by
 obtain ⟨W1,W2,W3,b0,o0,ba,aC,cC,aK,cK,aI,cI,hp⟩:=Ql hse hn hxn
 obtain ⟨D,q0,q1,q2,z1,bb,p0,s0,s1,s2,s3,s4,s5,F,bc,g1,g2,g3,g,f,b,c,Z,hB⟩:=hp
 have G:=Xa g
 have J:=Xa f
 have L:=Xa b
 have bd:=Xa c
 have P:Hid (NR E W3 v ns):=(hv.but f).below b
 have be:=Xa hv.ok
 have HO:=Xa ho
 have HX:=Xa hx
 have HE:=Xa Z
 obtain ⟨av,cv,rfl⟩:=hv.slice
 obtain ⟨R,C⟩:∃R,evM (Xh fs d) x ns Xl (j,[])=R:=⟨_,rfl⟩
 have bf:=Xa C
 rw[C]
 have S:(n:Int)<(fs.length:Int):=by omega
 have bg:¬((j:Int)+1=0):=by omega
 have bh:(j:Int)<=1000000:=by omega
 obtain ⟨NF,o⟩:∃NF,fs.length=NF:=⟨_,rfl⟩
 rw[o] at q0 p0 S hn
 have y0:=(Xc b (by omega)).trans c.c0
 have y1:=(Xc b (by omega)).trans c.c1
 have y2:=(Xc b (by omega)).trans c.c2
 have y3:=(Xc b (by omega)).trans c.c3
 have y4:=(Xc b (by omega)).trans c.c4
 have y5:=(Xc b (by omega)).trans c.c5
 obtain ⟨T,p⟩:∃T,x.kind=T:=⟨_,rfl⟩
 rw[p] at s0 F y0
 obtain rfl:T=11:=by omega
 obtain ⟨r,V⟩:∃r,(Xax ns,Gy ns)=r:=⟨_,rfl⟩
 have q:Hid (Now R Yi r.1 j (Ze r)):=by
  have h1:=Kj (r:=Yn x ns) (fu:=j) (R:=R) (by rw[<-C,Xbz (by omega)])
  have h2:Yn x ns=r:=by rw[<-V];unfold Yn;rw[if_neg (by omega),if_neg (by omega),if_neg (by omega),if_pos k]
  rw[h2] at h1
  exact h1
 have HC:=Xa (Xzn P.out (by omega))
 rw[V] at HC
 clear hse hv ho hx hxn hok C D g f b c o p Z hB k V
 go_enter Tryz.func35,Tryz.ntmps35
 go_wp2_with fail
 refine HC.out.mono ?_
 rintro e w4 ⟨u,rfl,⟨a4,l4,c4,rfl⟩,s,l⟩
 have X:=Xa (L.out.trans (l.mono (by omega)))
 have t:=Xa (Xbj (G.out.below l) ⟨a4,l4,c4,rfl⟩ s)
 have Y:Hid ((Ze r).length<=100 *(d+2)):=by have:=V6 r;unfold Hid;omega
 obtain ⟨rc,y⟩:∃rc,r.1=rc:=⟨_,rfl⟩
 rw[y] at t q|-
 clear s l y
 go_wp2_with fail
 refine t.out.mono ?_
 rintro e w5 ha
 have HA:=Xa (Vi (M:=100 *(d+2)) ha q.out J.out (.of_below X.out) HE.out Y.out)
 obtain ⟨sv,xs,rfl,-,-,hl⟩:=ha
 obtain ⟨a5,c5,rfl⟩:=hl.slice
 obtain ⟨L5,z⟩:∃L5,(Ze r).length=L5:=⟨_,rfl⟩
 rw[z] at HA|-
 clear hl z
 go_wp2_with fail
 go_ret
 exact HA.out
set_option maxRecDepth 100000 in
theorem Xwy {B E d j n:Nat} {fv v:Value} {fs:List FN} {x:FN} {ns:List VN} {w:World} (hok:okF fs=true) (ho:Qi B E fv fs d) (hx:NodeOk fs x) (k:x.kind=12) (hn:n<fs.length) (hxn:Xo fs n=x) (hse:SE B E fv fs (j+1) 0 w) (hv:NR E w v ns) (hj:j<=d) (hd:d<=100000):
  Calls Tryz.prog 35 #[.pointer (some ⟨E,0,none⟩), .int .i64 n,v] w (RunAns B E (100 *(d+2)) fv fs (evM (Xh fs d) x ns Xl (j,[])).1 (evM (Xh fs d) x ns Xl (j,[])).2.2 (evM (Xh fs d) x ns Xl (j,[])).2.1 w):=by
 obtain ⟨W1,W2,W3,b0,o0,ba,aC,cC,aK,cK,aI,cI,hp⟩:=Ql hse hn hxn
 obtain ⟨D,q0,q1,q2,z1,bb,p0,s0,s1,s2,s3,s4,s5,F,bc,g1,g2,g3,g,f,b,c,Z,hB⟩:=hp
 have G:=Xa g
 have J:=Xa f
 have L:=Xa b
 have bd:=Xa c
 have P:Hid (NR E W3 v ns):=(hv.but f).below b
 have be:=Xa hv.ok
 have HO:=Xa ho
 have HX:=Xa hx
 have HE:=Xa Z
 obtain ⟨av,cv,rfl⟩:=hv.slice
 obtain ⟨R,C⟩:∃R,evM (Xh fs d) x ns Xl (j,[])=R:=⟨_,rfl⟩
 have bf:=Xa C
 rw[C]
 have S:(n:Int)<(fs.length:Int):=by omega
 have bg:¬((j:Int)+1=0):=by omega
 have bh:(j:Int)<=1000000:=by omega
 obtain ⟨NF,o⟩:∃NF,fs.length=NF:=⟨_,rfl⟩
 rw[o] at q0 p0 S hn
 have y0:=(Xc b (by omega)).trans c.c0
 have y1:=(Xc b (by omega)).trans c.c1
 have y2:=(Xc b (by omega)).trans c.c2
 have y3:=(Xc b (by omega)).trans c.c3
 have y4:=(Xc b (by omega)).trans c.c4
 have y5:=(Xc b (by omega)).trans c.c5
 obtain ⟨T,p⟩:∃T,x.kind=T:=⟨_,rfl⟩
 rw[p] at s0 F y0
 obtain rfl:T=12:=by omega
 obtain ⟨r,V⟩:∃r,Vc ns=r:=⟨_,rfl⟩
 have q:Hid (Now R Yi r.1 j (Ze r)):=by
  have h1:=Kj (r:=Yn x ns) (fu:=j) (R:=R) (by rw[<-C,Xbz (by omega)])
  have h2:Yn x ns=r:=by rw[<-V];unfold Yn;rw[if_neg (by omega),if_neg (by omega),if_neg (by omega),if_neg (by omega),if_pos k]
  rw[h2] at h1
  exact h1
 have HC:=Xa (Xyj P.out (by omega))
 rw[V] at HC
 clear hse hv ho hx hxn hok C D g f b c o p Z hB k V
 go_enter Tryz.func35,Tryz.ntmps35
 go_wp2_with fail
 refine HC.out.mono ?_
 rintro e w4 ⟨u,rfl,⟨a4,l4,c4,rfl⟩,s,l⟩
 have X:=Xa (L.out.trans (l.mono (by omega)))
 have t:=Xa (Xbj (G.out.below l) ⟨a4,l4,c4,rfl⟩ s)
 have Y:Hid ((Ze r).length<=100 *(d+2)):=by have:=V6 r;unfold Hid;omega
 obtain ⟨rc,y⟩:∃rc,r.1=rc:=⟨_,rfl⟩
 rw[y] at t q|-
 clear s l y
 go_wp2_with fail
 refine t.out.mono ?_
 rintro e w5 ha
 have HA:=Xa (Vi (M:=100 *(d+2)) ha q.out J.out (.of_below X.out) HE.out Y.out)
 obtain ⟨sv,xs,rfl,-,-,hl⟩:=ha
 obtain ⟨a5,c5,rfl⟩:=hl.slice
 obtain ⟨L5,z⟩:∃L5,(Ze r).length=L5:=⟨_,rfl⟩
 rw[z] at HA|-
 clear hl z
 go_wp2_with fail
 go_ret
 exact HA.out
set_option maxRecDepth 100000 in
theorem X26 {B E d j n:Nat} {fv v:Value} {fs:List FN} {x:FN} {ns:List VN} {w:World} (hok:okF fs=true) (ho:Qi B E fv fs d) (hx:NodeOk fs x) (k:x.kind=13) (hn:n<fs.length) (hxn:Xo fs n=x) (hse:SE B E fv fs (j+1) 0 w) (hv:NR E w v ns) (hj:j<=d) (hd:d<=100000):
  Calls Tryz.prog 35 #[.pointer (some ⟨E,0,none⟩), .int .i64 n,v] w (RunAns B E (100 *(d+2)) fv fs (evM (Xh fs d) x ns Xl (j,[])).1 (evM (Xh fs d) x ns Xl (j,[])).2.2 (evM (Xh fs d) x ns Xl (j,[])).2.1 w):=by
 obtain ⟨W1,W2,W3,b0,o0,ba,aC,cC,aK,cK,aI,cI,hp⟩:=Ql hse hn hxn
 obtain ⟨D,q0,q1,q2,z1,bb,p0,s0,s1,s2,s3,s4,s5,F,bc,g1,g2,g3,g,f,b,c,hE,hB⟩:=hp
 have G:=Xa g
 have J:=Xa f
 have L:=Xa b
 have bd:=Xa c
 have P:Hid (NR E W3 v ns):=(hv.but f).below b
 have be:=Xa hv.ok
 have HO:=Xa ho
 have HX:=Xa hx
 have HE:=Xa hE
 obtain ⟨av,cv,rfl⟩:=hv.slice
 obtain ⟨R,C⟩:∃R,evM (Xh fs d) x ns Xl (j,[])=R:=⟨_,rfl⟩
 have bf:=Xa C
 rw[C]
 have S:(n:Int)<(fs.length:Int):=by omega
 have bg:¬((j:Int)+1=0):=by omega
 have bh:(j:Int)<=1000000:=by omega
 obtain ⟨NF,p⟩:∃NF,fs.length=NF:=⟨_,rfl⟩
 rw[p] at q0 p0 S hn
 have y0:=(Xc b (by omega)).trans c.c0
 have y1:=(Xc b (by omega)).trans c.c1
 have y2:=(Xc b (by omega)).trans c.c2
 have y3:=(Xc b (by omega)).trans c.c3
 have y4:=(Xc b (by omega)).trans c.c4
 have y5:=(Xc b (by omega)).trans c.c5
 obtain ⟨T,q⟩:∃T,x.kind=T:=⟨_,rfl⟩
 rw[q] at s0 F y0
 obtain rfl:T=13:=by omega
 have s:Hid (Now R Yi 0 j [Jc (!Xu ns)]):=by
  have h1:=Kj (r:=Yn x ns) (fu:=j) (R:=R) (by rw[<-C,Xbz (by omega)])
  have h2:Yn x ns=(0,Jc (!Xu ns)):=by unfold Yn;rw[if_neg (by omega),if_neg (by omega),if_neg (by omega),if_neg (by omega),if_neg (by omega),if_pos k]
  rw[h2] at h1
  exact h1
 have HC:=Xa (Xcc P.out)
 obtain ⟨V,t⟩:∃V,Xu ns=V:=⟨_,rfl⟩
 rw[t] at HC s
 clear hse hv ho hx hxn hok C D g f b c p q hE hB k t
 go_enter Tryz.func35,Tryz.ntmps35
 go_wp2_with fail
 refine HC.out.mono ?_
 rintro e w4 ⟨rfl,l⟩
 have y:=Xa (L.out.trans (l.mono (by omega)))
 have X:=Xa (G.out.below l)
 have z4:=y.out.size
 clear l
 go_wp2_with fail
 refine (Xkw E (!V) w4 (by have:=HE.out;omega)).mono ?_
 rintro e w5 ⟨u,rfl,⟨a5,c5,rfl⟩,z,o⟩
 have Y:=Xa (y.out.trans (o.mono (by omega)))
 have Z:=Xa (Kb (X.out.below o) z)
 clear z o
 go_wp2_with fail
 refine Z.out.mono ?_
 rintro e w6 ha
 have HA:=Xa (Vi (M:=100 *(d+2)) ha s.out J.out (.of_below Y.out) HE.out (by simp;omega))
 obtain ⟨sv,xs,rfl,-,-,hl⟩:=ha
 obtain ⟨a6,c6,rfl⟩:=hl.slice
 clear hl
 go_wp2_with fail
 go_ret
 exact HA.out
set_option maxRecDepth 100000 in
theorem Xwz {B E d j n:Nat} {fv v:Value} {fs:List FN} {x:FN} {ns:List VN} {w:World} (hok:okF fs=true) (ho:Qi B E fv fs d) (hx:NodeOk fs x) (k:x.kind=14) (hn:n<fs.length) (hxn:Xo fs n=x) (hse:SE B E fv fs (j+1) 0 w) (hv:NR E w v ns) (hj:j<=d) (hd:d<=100000):
  Calls Tryz.prog 35 #[.pointer (some ⟨E,0,none⟩), .int .i64 n,v] w (RunAns B E (100 *(d+2)) fv fs (evM (Xh fs d) x ns Xl (j,[])).1 (evM (Xh fs d) x ns Xl (j,[])).2.2 (evM (Xh fs d) x ns Xl (j,[])).2.1 w):=by
 obtain ⟨W1,X,S,b0,o0,Y,aC,cC,aK,cK,aI,cI,Z⟩:=Ql hse hn hxn
 obtain ⟨t,q0,q1,q2,z1,ba,p0,s0,s1,s2,s3,s4,s5,y,z,g1,g2,g3,g,f,b,c,T,hB⟩:=Z
 have C:=Xa g
 have D:=Xa f
 have F:=Xa b
 have bb:=Xa c
 have bc:Hid (NR E S v ns):=(hv.but f).below b
 have bd:=Xa hv.ok
 have HO:=Xa ho
 have HX:=Xa hx
 have HE:=Xa T
 obtain ⟨av,cv,rfl⟩:=hv.slice
 obtain ⟨R,s⟩:∃R,evM (Xh fs d) x ns Xl (j,[])=R:=⟨_,rfl⟩
 have be:=Xa s
 rw[s]
 have G:(n:Int)<(fs.length:Int):=by omega
 have bf:¬((j:Int)+1=0):=by omega
 have bg:(j:Int)<=1000000:=by omega
 obtain ⟨V,p⟩:∃V,fs.length=V:=⟨_,rfl⟩
 rw[p] at q0 p0 G hn
 have y0:=(Xc b (by omega)).trans c.c0
 have y1:=(Xc b (by omega)).trans c.c1
 have y2:=(Xc b (by omega)).trans c.c2
 have y3:=(Xc b (by omega)).trans c.c3
 have y4:=(Xc b (by omega)).trans c.c4
 have y5:=(Xc b (by omega)).trans c.c5
 obtain ⟨J,q⟩:∃J,x.kind=J:=⟨_,rfl⟩
 rw[q] at s0 y y0
 obtain rfl:J=14:=by omega
 have L:Hid (Now R Yi 0 j []):=Now.start (by rw[<-s,Xo3 k]) (by simp)
 have P:Hid (LR E (w.heap.size+1) S (.slice (some ⟨w.heap.size+1,0,none⟩) 0 0) [] []):=by rw[Hid,<-z,<-g2];exact ⟨World.ownsRow_lit X #[] 0 (Nat.le_refl _) (by simp[maxLen]) rfl,by omega,fun j hj=>absurd hj (by simp)⟩
 clear hse hv ho hx hxn hok s t g f b c p q T hB k
 go_enter Tryz.func35,Tryz.ntmps35
 go_wp2_with fail
 refine (Zr _ 0 0 C.out).mono ?_
 rintro e w4 ⟨rfl,l,o⟩
 rw[Ws (by omega)] at l
 have HA:=Xa (Qx (M:=100 *(d+2)) (e:= .returned (.slice (some ⟨w.heap.size+1,0,none⟩) 0 0)) rfl L.out l D.out ((ButE.of_below F.out).trans o) (P.out.keep o) (by omega) HE.out (by simp))
 clear l o
 go_wp2_with fail
 go_ret
 exact HA.out
set_option maxRecDepth 100000 in
theorem X0l {B E d j n:Nat} {fv v:Value} {fs:List FN} {x:FN} {ns:List VN} {w:World} (hok:okF fs=true) (ho:Qi B E fv fs d) (hx:NodeOk fs x) (k:x.kind=4) (hn:n<fs.length) (hxn:Xo fs n=x) (hse:SE B E fv fs (j+1) 0 w) (hv:NR E w v ns) (hj:j<=d) (hd:d<=100000):
  Calls Tryz.prog 35 #[.pointer (some ⟨E,0,none⟩), .int .i64 n,v] w (RunAns B E (100 *(d+2)) fv fs (evM (Xh fs d) x ns Xl (j,[])).1 (evM (Xh fs d) x ns Xl (j,[])).2.2 (evM (Xh fs d) x ns Xl (j,[])).2.1 w):=by
 obtain ⟨W1,W2,W3,b0,o0,bj,aC,cC,aK,cK,aI,cI,hp⟩:=Ql hse hn hxn
 obtain ⟨J,q0,q1,q2,z1,bk,p0,s0,s1,s2,s3,s4,s5,bc,bl,g1,g2,g3,g,f,b,c,hE,hB⟩:=hp
 have L:=Xa g
 have P:=Xa f
 have S:=Xa b
 have bm:=Xa c
 have p:Hid (NR E W3 v ns):=(hv.but f).below b
 have T:=Xa hv.ok
 have HO:=Xa ho
 have HX:=Xa hx
 have HE:=Xa hE
 obtain ⟨av,cv,rfl⟩:=hv.slice
 obtain ⟨R,V⟩:∃R,evM (Xh fs d) x ns Xl (j,[])=R:=⟨_,rfl⟩
 have bn:=Xa V
 rw[V]
 have bd:(n:Int)<(fs.length:Int):=by omega
 have bo:¬((j:Int)+1=0):=by omega
 have bp:(j:Int)<=1000000:=by omega
 obtain ⟨NF,q⟩:∃NF,fs.length=NF:=⟨_,rfl⟩
 rw[q] at q0 p0 bd hn
 have y0:=(Xc b (by omega)).trans c.c0
 have y1:=(Xc b (by omega)).trans c.c1
 have y2:=(Xc b (by omega)).trans c.c2
 have y3:=(Xc b (by omega)).trans c.c3
 have y4:=(Xc b (by omega)).trans c.c4
 have y5:=(Xc b (by omega)).trans c.c5
 obtain ⟨KK,s⟩:∃KK,x.kind=KK:=⟨_,rfl⟩
 rw[s] at s0 bc y0
 obtain rfl:KK=4:=by omega
 obtain ⟨be,bf⟩:=p.out.sized
 obtain ⟨b1,o1,c1,bq,br,bs,bt,bu,bv,ev,bw,u1,u2,d0,d1,d2,d3,d4⟩:=Q8 p.out.nodes (by omega)
 injection ev with ev1 ev2 ev3
 subst ev1 ev3
 clear u1 u2 ev2 d1 d2 d3 d4
 have t:Hid (R=if (Xd ns).kind=5\/(Xd ns).kind=6 then Xq Xl (Yo ns) (j,[]) else (2,(j,[]))):=by rw[Hid,<-V,Xst k]
 have X:Hid (1<=(Xd ns).kind/\(Xd ns).kind<=6):=Xez T.out
 have Y:Hid ((Yo ns).length<=80):=by unfold Hid;rw[Qp];have:=(Xm T.out).2.2.2 (ns.length-1) (by omega);unfold Xe;omega
 have Z:=Xa (Xtp p.out (by omega))
 obtain ⟨kr,y⟩:∃kr,(Xd ns).kind=kr:=⟨_,rfl⟩
 rw[y] at t X d0
 obtain ⟨N1,z⟩:∃N1,ns.length=N1:=⟨_,rfl⟩
 rw[z] at be bf d0 Z|-
 have z9:((N1:Int)-1).toNat=N1-1:=by omega
 by_cases hlt:kr<5
 ·have o:Hid (Now R Yi 2 j []):=Xo2 (by decide) (by rw[t.out,if_neg (by omega)])
  clear hse hv ho hx hxn hok V J g f b c q s hE hB k y z
  go_enter Tryz.func35,Tryz.ntmps35
  go_wp2_with fail
  refine (Xjl none 0 0 L.out (by decide)).mono ?_
  rintro e w4 ha
  have HA:=Xa (Vi (M:=100 *(d+2)) ha o.out P.out (.of_below S.out) HE.out (by simp))
  obtain ⟨sv,xs,rfl,-,-,hl⟩:=ha
  obtain ⟨a5,c5,rfl⟩:=hl.slice
  clear hl
  go_wp2_with fail
  go_ret
  exact HA.out
 ·have o:Hid (Now R Yi (Zj 0 (Yo ns).length) j (Yo ns)):=by
   have h1:=Wr (R:=R) (c0:=0) (l:=Yo ns) (m:=Yo ns) (out:= []) (fu:=j) (by simp) (fun _=>rfl) (by rw[if_pos rfl,t.out,if_pos (by have:=X.out;omega)])
   unfold Hid
   simpa using h1
  clear hse hv ho hx hxn hok V J g f b c q s hE hB k y z
  go_enter Tryz.func35,Tryz.ntmps35
  go_wp2_with fail
  refine Z.out.mono ?_
  rintro e w4 ⟨sv,xs,rfl,C,D⟩
  have bg:=Xa (S.out.trans (D.mono (by omega)))
  have bh:=Xa (L.out.below D)
  have ba:=Xa C
  obtain ⟨a4,c4,rfl⟩:=C.slice
  obtain ⟨M4,F⟩:∃M4,(Yo ns).length=M4:=⟨_,rfl⟩
  rw[F] at ba o Y|-
  have bi:=Xa F
  clear C D F
  go_wp2_with fail
  refine (Zr a4 M4 c4 bh.out).mono ?_
  rintro e w5 ⟨rfl,bb,G⟩
  have HA:=Xa (Qx (M:=100 *(d+2)) (e:= .returned (.slice a4 M4 c4)) rfl o.out bb P.out ((ButE.of_below bg.out).trans G) (ba.out.keep G) (by omega) HE.out (by have:=Y.out;rw[bi.out];omega))
  clear bb G
  go_wp2_with fail
  go_ret
  exact HA.out


theorem Xyq {fs:List FN} {x:FN} (h:NodeOk fs x):(x.kind≠3->x.place=0)/\(x.kind=3->-80<=x.place/\x.place<=80):=by
 have b:=h.fit
 unfold Xv U0 at b
 simp only[Bool.and_eq_true] at b
 obtain ⟨⟨⟨⟨⟨d,c⟩,g⟩,j⟩,o⟩,f⟩:=b
 refine ⟨fun e=> ?_,fun e=> ?_⟩
 ·simp[e] at c;exact c
 ·unfold J3 at o;rw[if_neg (by omega),if_pos e] at o;simpa using o
theorem X1u {E:Nat} {v:Value} {ns:List VN} {w:World} (hv:NR E w v ns) (hE:E<w.heap.size) {j:Nat} (hj:j<(Xe ns).length):Calls Tryz.prog 129 #[v, .int .i64 (Xj (Xe ns) j)] w (Xh9 E (PL ns j) w):=by
 obtain ⟨q,l,o⟩:=Zh hv.ok hj
 obtain ⟨p,C,s,D⟩:=Xm hv.ok
 obtain ⟨⟨d,t⟩,b⟩:=s q (by omega)
 rw[l]
 refine (Xie w.heap.size v ns q d t w hv.nodes (Nat.le_refl _) p.2 (Va hv.ok) (by omega) b).mono ?_
 rintro e F ⟨r,K,I,y,f,z⟩
 have g:run ns (-(d:Int)) d (q+1-d)=PL ns j:=by unfold PL;rw[l,Int.toNat_natCast,Ys,b];simp[trF]
 rw[g] at f
 obtain ⟨a,c,B⟩:=Xg f.row
 exact ⟨r,y,⟨a,c,B⟩,NR.made f (Xgb hv.ok hj) hE,z⟩
theorem Xpr {x:VN} {key:ByteArray} {pl:Int} (h6:x.kind=6):Jm (Q1 x ⟨true,key,pl⟩)=if Y0 x.keys key=true then ((Z3 x.keys key:Nat):Int) else-1:=by
 unfold Q1 Gx
 simp only[h6]
 cases h:Y0 x.keys key<;>simp[Jm,h]
theorem Xkj {x:VN} {key:ByteArray} {q:Int} (h5:x.kind=5) (h0:0<=q):Jm (Q1 x ⟨false,key,q⟩)=if q<(x.kids.length:Int) then q else-1:=by
 unfold Q1 Gx
 by_cases h:q<(x.kids.length:Int)
 ·simp[h5,h,Jm];omega
 ·simp[h5,h,Jm]
theorem Kn {B E fu:Nat} {fv v kc kn ki:Value} {fs:List FN} {x:FN} {ns:List VN} {w:World} (hx:NodeOk fs x) (hin:FNodeIn B w x kc kn ki) (hs:SE B E fv fs fu 0 w) (hv:NR E w v ns):∃(b1 o1 c1:Nat) (aK1:Option Addr) (cK1:Nat) (aI1:Option Addr) (cI1:Nat) (aC:Option Addr) (cC:Nat) (aK:Option Addr) (cK:Nat) (aI:Option Addr) (cI NL:Nat) (kr nr:Int) (sr:ByteArray) (KS KM:Nat) (kk:Int) (nm:ByteArray) (pl:Int) (rr:Int×List VN) (W1 W2 W3:World),
  v= .slice (some ⟨b1,o1,none⟩) NL c1/\kc= .slice aC x.cst.length cC/\kn= .slice aK x.names.length cK/\ki= .slice aI x.kids.length cI/\
   ns.length=NL/\
   (Xd ns).kind=kr/\
   (Xd ns).n=nr/\
   (Xd ns).s=sr/\
   (Xd ns).keys.length=KS/\
   (Xd ns).kids.length=KM/\
   x.kind=kk/\
   x.name=nm/\
   x.place=pl/\
   Yn x ns=rr/\
   w.alloc (.cells #[.int .i64 kk, .string nm, .int .i64 pl, .slice aC x.cst.length cC, .slice aK x.names.length cK, .slice aI x.kids.length cI] 84)=W1/\
   W1.alloc (.cells #[.int .i64 kr, .int .i64 nr, .string sr, .slice aK1 KS cK1, .slice aI1 KM cI1] 75)=W2/\
   W2.alloc (.cells #[.bool (kk==2), .string nm, .int .i64 pl] 183)=W3/\
   1<=NL/\
   NL<=80/\
   (1<=(Xd ns).kind/\(Xd ns).kind<=6)/\
   b1<w.heap.size/\
   E<w.heap.size/\
   (x.kind≠3->x.place=0)/\
   (x.kind=3->-80<=x.place/\x.place<=80)/\
   (Xd ns).kids.length<=80/\
   Hid (Xe ns=(Xd ns).kids)/\
   Hid (okB ns=true)/\
   Hid (NodeIn w.heap.size w (Xd ns) (.slice aK1 (Xd ns).keys.length cK1) (.slice aI1 (Xd ns).kids.length cI1))/\
   Hid (0<(Xd ns).kids.length->∃b o,aI1=some ⟨b,o,none⟩/\b<w.heap.size/\∀i,i<(Xd ns).kids.length->w.cell? ⟨b,o+i,none⟩=some (.int .i64 (Xj (Xd ns).kids i)))/\
   Hid (∀W,Below w.heap.size w W->∀j,j<(Xe ns).length->Calls Tryz.prog 129 #[.slice (some ⟨b1,o1,none⟩) NL c1, .int .i64 (Xj (Xe ns) j)] W (Xh9 E (PL ns j) W))/\
   Hid (∀W,Below w.heap.size w W->SE B E fv fs fu 0 W)/\
   Hid (x.kind=2->rr=Vb ns x.name)/\
   Hid (x.kind=3->rr=atR ns x.place)/\
   W1.heap.size=w.heap.size+1/\
   W2.heap.size=w.heap.size+2/\
   W3.heap.size=w.heap.size+3/\
   W1.cell? ⟨w.heap.size,0,none⟩=some (.int .i64 kk)/\
   W1.cell? ⟨w.heap.size,1,none⟩=some (.string nm)/\
   W1.cell? ⟨w.heap.size,2,none⟩=some (.int .i64 pl)/\
   W2.cell? ⟨w.heap.size,0,none⟩=some (.int .i64 kk)/\
   W2.cell? ⟨w.heap.size,1,none⟩=some (.string nm)/\
   W2.cell? ⟨w.heap.size,2,none⟩=some (.int .i64 pl)/\
   W3.cell? ⟨w.heap.size+1,0,none⟩=some (.int .i64 kr)/\
   W3.cell? ⟨w.heap.size+1,1,none⟩=some (.int .i64 nr)/\
   W3.cell? ⟨w.heap.size+1,2,none⟩=some (.string sr)/\
   W3.cell? ⟨w.heap.size+1,3,none⟩=some (.slice aK1 KS cK1)/\
   W3.cell? ⟨w.heap.size+1,4,none⟩=some (.slice aI1 KM cI1)/\
   W3.cell? ⟨w.heap.size+2,0,none⟩=some (.bool (kk==2))/\
   W3.cell? ⟨w.heap.size+2,1,none⟩=some (.string nm)/\
   W3.cell? ⟨w.heap.size+2,2,none⟩=some (.int .i64 pl)/\
   W3.frozen? ⟨w.heap.size+2,2,none⟩=false/\
   W1.cell? ⟨b1,o1+(NL-1) *5,none⟩=some (.int .i64 kr)/\
   W1.cell? ⟨b1,o1+(NL-1) *5+1,none⟩=some (.int .i64 nr)/\
   W1.cell? ⟨b1,o1+(NL-1) *5+2,none⟩=some (.string sr)/\
   W1.cell? ⟨b1,o1+(NL-1) *5+3,none⟩=some (.slice aK1 KS cK1)/\
   W1.cell? ⟨b1,o1+(NL-1) *5+4,none⟩=some (.slice aI1 KM cI1)/\
   Hid (Below w.heap.size w W3)/\
   Hid (NodeIn w.heap.size W3 (Xd ns) (.slice aK1 (Xd ns).keys.length cK1) (.slice aI1 (Xd ns).kids.length cI1)):=by
 have HX:=Xa hx
 have X:=Xa hv.ok
 have HS:=Xa hs
 have HV:=Xa hv
 have br:=Xa hin
 obtain ⟨Y,Z⟩:=hv.sized
 have ba:=Xez hv.ok
 obtain ⟨_,b1,o1,c1,rfl,g,bb⟩:∃(_:ns.length<=1759218604416) (b o c:Nat),v= .slice (some ⟨b,o,none⟩) ns.length c/\b<w.heap.size/\∃ka ki,NodeAt w.heap.size w b (o+(ns.length-1) *5) (Xd ns) ka ki:=by
  obtain ⟨hl,a,c,e,hx⟩:=hv.nodes
  obtain ⟨b,o,ea,J,bc⟩:=hx (by omega)
  exact ⟨hl,b,o,c,by rw[e,ea],J,bc _ (by omega)⟩
 obtain ⟨bs,bt,d⟩:=bb
 have bd:=Xa d.inn
 obtain ⟨_,_,aK1,cK1,rfl,_⟩:=id d.inn.keys
 obtain ⟨_,_,aI1,cI1,rfl,be⟩:=id d.inn.kids
 have bf:=Xa be
 have d0:=d.c0
 have d1:=d.c1
 have d2:=d.c2
 have d3:=d.c3
 have d4:=d.c4
 obtain ⟨_,aC,cC,rfl,_⟩:=id hin.cst
 obtain ⟨_,_,aK,cK,rfl,_⟩:=id hin.names
 obtain ⟨_,_,aI,cI,rfl,_⟩:=id hin.kids
 have hE:=hs.lt
 obtain ⟨L,M⟩:=Xyq hx
 have P:(Xd ns).kids.length<=80:=by have:=(Xm hv.ok).2.2.2 (ns.length-1) (by omega);unfold Xd;omega
 have bg:Hid (Xe ns=(Xd ns).kids):=rfl
 have bh:Hid (∀W,Below w.heap.size w W->∀j,j<(Xe ns).length->Calls Tryz.prog 129 #[.slice (some ⟨b1,o1,none⟩) ns.length c1, .int .i64 (Xj (Xe ns) j)] W (Xh9 E (PL ns j) W)):=fun W J j hj=>X1u (hv.below J) (Nat.lt_of_lt_of_le hE J.size) hj
 have bi:Hid (∀W,Below w.heap.size w W->SE B E fv fs fu 0 W):=fun W J=>hs.below J
 obtain ⟨rr,t⟩:∃rr,Yn x ns=rr:=⟨_,rfl⟩
 have bu:=Xa t
 have bj:Hid (x.kind=2->rr=Vb ns x.name):=fun k=>by rw[<-t];unfold Yn;rw[if_pos k]
 have bk:Hid (x.kind=3->rr=atR ns x.place):=fun k=>by rw[<-t];unfold Yn;rw[if_neg (by omega),if_pos k]
 obtain ⟨W1,y⟩:∃W1,w.alloc (.cells #[.int .i64 x.kind, .string x.name, .int .i64 x.place, .slice aC x.cst.length cC, .slice aK x.names.length cK, .slice aI x.kids.length cI] 84)=W1:=⟨_,rfl⟩
 obtain ⟨W2,p⟩:∃W2,W1.alloc (.cells #[.int .i64 (Xd ns).kind, .int .i64 (Xd ns).n, .string (Xd ns).s, .slice aK1 (Xd ns).keys.length cK1, .slice aI1 (Xd ns).kids.length cI1] 75)=W2:=⟨_,rfl⟩
 obtain ⟨W3,q⟩:∃W3,W2.alloc (.cells #[.bool (x.kind==2), .string x.name, .int .i64 x.place] 183)=W3:=⟨_,rfl⟩
 have C:W1.heap.size=w.heap.size+1:=by rw[<-y];simp
 have D:W2.heap.size=w.heap.size+2:=by rw[<-p];simp[C]
 have bl:W3.heap.size=w.heap.size+3:=by rw[<-q];simp[D]
 have l:Below w.heap.size w W1:=by rw[<-y];exact (Below.refl _ _).alloc (Nat.le_refl _) _
 have bm:Below w.heap.size w W2:=by rw[<-p];exact l.alloc (by omega) _
 have R:Below w.heap.size w W3:=by rw[<-q];exact bm.alloc (by omega) _
 have F:Below (w.heap.size+1) W1 W2:=by rw[<-p];exact (Below.refl _ _).alloc (by omega) _
 have bn:Below (w.heap.size+2) W2 W3:=by rw[<-q];exact (Below.refl _ _).alloc (by omega) _
 have G:W1.heap[w.heap.size]? =some (.cells #[.int .i64 x.kind, .string x.name, .int .i64 x.place, .slice aC x.cst.length cC, .slice aK x.names.length cK, .slice aI x.kids.length cI] 84 (0,0)):=by rw[<-y];exact heap_alloc_new w _
 have bo:W2.heap[w.heap.size+1]? =some (.cells #[.int .i64 (Xd ns).kind, .int .i64 (Xd ns).n, .string (Xd ns).s, .slice aK1 (Xd ns).keys.length cK1, .slice aI1 (Xd ns).kids.length cI1] 75 (0,0)):=by rw[<-p,<-C];exact heap_alloc_new W1 _
 have z:W3.heap[w.heap.size+2]? =some (.cells #[.bool (x.kind==2), .string x.name, .int .i64 x.place] 183 (0,0)):=by rw[<-q,<-D];exact heap_alloc_new W2 _
 have f:W3.heap[w.heap.size+1]? =some (.cells #[.int .i64 (Xd ns).kind, .int .i64 (Xd ns).n, .string (Xd ns).s, .slice aK1 (Xd ns).keys.length cK1, .slice aI1 (Xd ns).kids.length cI1] 75 (0,0)):=(bn.block _ (by omega)).trans bo
 have f0:=Xw G 0
 have f1:=Xw G 1
 have f2:=Xw G 2
 have S:=(Xc F (by omega:w.heap.size<w.heap.size+1)).trans f0
 have T:=(Xc F (by omega:w.heap.size<w.heap.size+1)).trans f1
 have V:=(Xc F (by omega:w.heap.size<w.heap.size+1)).trans f2
 have r0:=Xw f 0
 have r1:=Xw f 1
 have r2:=Xw f 2
 have r3:=Xw f 3
 have r4:=Xw f 4
 have t0:=Xw z 0
 have t1:=Xw z 1
 have t2:=Xw z 2
 have t3:W3.frozen? ⟨w.heap.size+2,2,none⟩=false:=by simp[World.frozen?,z]
 simp at f0 f1 f2 S T V r0 r1 r2 r3 r4 t0 t1 t2
 have m0:=(Xc l g).trans d0
 have m1:=(Xc l g).trans d1
 have m2:=(Xc l g).trans d2
 have m3:=(Xc l g).trans d3
 have m4:=(Xc l g).trans d4
 have bp:=Xa R
 have bq:=Xa (d.inn.below R)
 exact ⟨b1,o1,c1,aK1,cK1,aI1,cI1,aC,cC,aK,cK,aI,cI,ns.length,(Xd ns).kind,(Xd ns).n,(Xd ns).s,(Xd ns).keys.length,(Xd ns).kids.length,x.kind,x.name,x.place,rr,W1,W2,W3,rfl,rfl,rfl,rfl,rfl,rfl,rfl,rfl,rfl,rfl,rfl,rfl,rfl,t,y,p,q,Y,Z,ba,g,hE,L,M,P,bg,X,bd,bf,bh,bi,bj,bk,C,D,bl,f0,f1,f2,S,T,V,r0,r1,r2,r3,r4,t0,t1,t2,t3,m0,m1,m2,m3,m4,bp,bq⟩
set_option maxRecDepth 100000 in
theorem Xvh {B E fu:Nat} {fv v kc kn ki:Value} {fs:List FN} {x:FN} {ns:List VN} {w:World} (hx:NodeOk fs x) (k:x.kind=2) (hin:FNodeIn B w x kc kn ki) (hs:SE B E fv fs fu 0 w) (hv:NR E w v ns) (hr:(Xd ns).kind=1):
  Calls Tryz.prog 71 #[.pointer (some ⟨E,0,none⟩),v,Yf x kc kn ki] w (Qy B E fv fs (Yn x ns).1 (Ze (Yn x ns)) fu w):=by
 obtain ⟨b1,o1,c1,ba,bb,bc,bd,aC,cC,aK,cK,aI,cI,NL,kr,nr,sr,KS,KM,kk,nm,pl,rr,W1,W2,W3,rfl,rfl,rfl,rfl,J,b,g,j,L,l,c,o,p,q,be,bf,M,bg,bh,P,bi,hE,s,t,y,bj,bk,bl,bm,bn,R,S,bo,bp,bq,br,f0,f1,f2,bs,bt,bu,r0,r1,r2,r3,r4,t0,t1,t2,t3,m0,m1,m2,m3,m4,T,bv⟩:=Kn hx hin hs hv
 rw[q]
 have z:Hid (rr=(0,Jd)):=by rw[Hid];rw[S.out k];unfold Vb;rw[if_pos hr]
 have z1:((NL:Int)-1).toNat=NL-1:=by omega
 rw[l] at y
 unfold Yf
 rw[c,o,p]
 have e2:(kk==2)=true:=by rw[<-c,k];rfl
 rw[e2] at t0 M
 obtain rfl:kr=1:=by rw[<-b,hr]
 clear hx hin hs hv k q P s t J b g j L l c o p hr
 go_enter Tryz.func71,Tryz.ntmps71
 go_wp2_with fail
 refine (Xaf E W3 (by omega)).mono ?_
 rintro e w4 ⟨u,rfl,⟨a4,c4,rfl⟩,C,D⟩
 have d:=Xa (T.out.trans (D.mono (by omega)))
 have V:=Xa (Kb (R.out _ d.out) C)
 clear C D
 go_wp2_with fail
 refine V.out.mono ?_
 rintro e w5 ⟨sv,xs,rfl,F,G,f⟩
 have X:=Xa F
 have Y:=Xa ((ButE.of_below d.out).trans G)
 have Z:=Xa (f.low (base':=w.heap.size) d.out.size hE)
 obtain ⟨a5,c5,rfl⟩:=f.slice
 clear F G f
 go_wp2_with fail
 go_ret
 exact ⟨_,_,rfl,by rw[z.out];exact X.out,Y.out,by rw[z.out];exact Z.out⟩
set_option maxRecDepth 100000 in
theorem Xvi {B E fu:Nat} {fv v kc kn ki:Value} {fs:List FN} {x:FN} {ns:List VN} {w:World} (hx:NodeOk fs x) (k:x.kind=3) (hin:FNodeIn B w x kc kn ki) (hs:SE B E fv fs fu 0 w) (hv:NR E w v ns) (hr:(Xd ns).kind=1):
  Calls Tryz.prog 71 #[.pointer (some ⟨E,0,none⟩),v,Yf x kc kn ki] w (Qy B E fv fs (Yn x ns).1 (Ze (Yn x ns)) fu w):=by
 obtain ⟨b1,o1,c1,ba,bb,bc,bd,aC,cC,aK,cK,aI,cI,NL,kr,nr,sr,KS,KM,kk,nm,pl,rr,W1,W2,W3,rfl,rfl,rfl,rfl,J,b,g,j,L,l,c,o,p,q,be,bf,M,bg,bh,P,bi,hE,s,t,y,bj,bk,bl,bm,bn,R,bo,S,bp,bq,br,f0,f1,f2,bs,bt,bu,r0,r1,r2,r3,r4,t0,t1,t2,t3,m0,m1,m2,m3,m4,T,bv⟩:=Kn hx hin hs hv
 rw[q]
 have z:Hid (rr=(0,Jd)):=by rw[Hid];rw[S.out k];unfold atR;rw[if_pos hr]
 have z1:((NL:Int)-1).toNat=NL-1:=by omega
 rw[l] at y
 unfold Yf
 rw[c,o,p]
 have e2:(kk==2)=false:=by rw[<-c,k];rfl
 rw[e2] at t0 M
 obtain rfl:kr=1:=by rw[<-b,hr]
 clear hx hin hs hv k q P s t J b g j L l c o p hr
 go_enter Tryz.func71,Tryz.ntmps71
 go_wp2_with fail
 refine (Xaf E W3 (by omega)).mono ?_
 rintro e w4 ⟨u,rfl,⟨a4,c4,rfl⟩,C,D⟩
 have d:=Xa (T.out.trans (D.mono (by omega)))
 have V:=Xa (Kb (R.out _ d.out) C)
 clear C D
 go_wp2_with fail
 refine V.out.mono ?_
 rintro e w5 ⟨sv,xs,rfl,F,G,f⟩
 have X:=Xa F
 have Y:=Xa ((ButE.of_below d.out).trans G)
 have Z:=Xa (f.low (base':=w.heap.size) d.out.size hE)
 obtain ⟨a5,c5,rfl⟩:=f.slice
 clear F G f
 go_wp2_with fail
 go_ret
 exact ⟨_,_,rfl,by rw[z.out];exact X.out,Y.out,by rw[z.out];exact Z.out⟩
set_option maxRecDepth 100000 in
theorem X1v {B E fu:Nat} {fv v kc kn ki:Value} {fs:List FN} {x:FN} {ns:List VN} {w:World} (hx:NodeOk fs x) (k:x.kind=2) (hin:FNodeIn B w x kc kn ki) (hs:SE B E fv fs fu 0 w) (hv:NR E w v ns) (hr1:(Xd ns).kind≠1) (hr:(Xd ns).kind≠6):
  Calls Tryz.prog 71 #[.pointer (some ⟨E,0,none⟩),v,Yf x kc kn ki] w (Qy B E fv fs (Yn x ns).1 (Ze (Yn x ns)) fu w):=by
 obtain ⟨b1,o1,c1,X,Y,Z,ba,aC,cC,aK,cK,aI,cI,V,kr,nr,sr,KS,KM,kk,nm,pl,rr,W1,W2,W3,rfl,rfl,rfl,rfl,F,b,g,j,G,l,c,o,p,q,bb,bc,J,bd,be,L,bf,hE,s,t,y,bg,bh,bi,bj,bk,M,P,bl,bm,bn,bo,f0,f1,f2,bp,bq,br,r0,r1,r2,r3,r4,t0,t1,t2,t3,m0,m1,m2,m3,m4,d,bs⟩:=Kn hx hin hs hv
 rw[q]
 have z:Hid (rr=(2,[])):=by rw[Hid];rw[P.out k];unfold Vb;rw[if_neg hr1,if_neg hr]
 have z1:((V:Int)-1).toNat=V-1:=by omega
 rw[l] at y
 unfold Yf
 rw[c,o,p]
 have e2:(kk==2)=true:=by rw[<-c,k];rfl
 rw[e2] at t0 J
 have q1:(kr==1)=false:=by rw[<-b];simpa using hr1
 have q2:(kr==6)=false:=by rw[<-b];simpa using hr
 have q3:(kr !=6)=true:=by rw[<-b];simpa using hr
 clear hx hin hs hv k q L s t F b g j G l c o p hr1 hr
 go_enter Tryz.func71,Tryz.ntmps71
 go_wp2_with fail
 refine (Xjl none 0 0 (M.out _ d.out) (by decide:(2:Int)≠0)).mono ?_
 rintro e w5 ⟨sv,xs,rfl,C,D,f⟩
 have R:=Xa C
 have S:=Xa ((ButE.of_below d.out).trans D)
 have T:=Xa (f.low (base':=w.heap.size) d.out.size hE)
 obtain ⟨a5,c5,rfl⟩:=f.slice
 clear C D f
 go_wp2_with fail
 go_ret
 exact ⟨_,_,rfl,by rw[z.out];exact R.out,S.out,by rw[z.out];exact T.out⟩
set_option maxRecDepth 100000 in
theorem X1w {B E fu:Nat} {fv v kc kn ki:Value} {fs:List FN} {x:FN} {ns:List VN} {w:World} (hx:NodeOk fs x) (k:x.kind=3) (hin:FNodeIn B w x kc kn ki) (hs:SE B E fv fs fu 0 w) (hv:NR E w v ns) (hr1:(Xd ns).kind≠1) (hr:(Xd ns).kind≠5):
  Calls Tryz.prog 71 #[.pointer (some ⟨E,0,none⟩),v,Yf x kc kn ki] w (Qy B E fv fs (Yn x ns).1 (Ze (Yn x ns)) fu w):=by
 obtain ⟨b1,o1,c1,X,Y,Z,ba,aC,cC,aK,cK,aI,cI,V,kr,nr,sr,KS,KM,kk,nm,pl,rr,W1,W2,W3,rfl,rfl,rfl,rfl,F,b,g,j,G,l,c,o,p,q,bb,bc,J,bd,be,L,bf,hE,s,t,y,bg,bh,bi,bj,bk,M,bl,P,bm,bn,bo,f0,f1,f2,bp,bq,br,r0,r1,r2,r3,r4,t0,t1,t2,t3,m0,m1,m2,m3,m4,d,bs⟩:=Kn hx hin hs hv
 rw[q]
 have z:Hid (rr=(2,[])):=by rw[Hid];rw[P.out k];unfold atR;rw[if_neg hr1,if_neg hr]
 have z1:((V:Int)-1).toNat=V-1:=by omega
 rw[l] at y
 unfold Yf
 rw[c,o,p]
 have e2:(kk==2)=false:=by rw[<-c,k];rfl
 rw[e2] at t0 J
 have q1:(kr==1)=false:=by rw[<-b];simpa using hr1
 have q2:(kr==5)=false:=by rw[<-b];simpa using hr
 have q3:(kr !=5)=true:=by rw[<-b];simpa using hr
 clear hx hin hs hv k q L s t F b g j G l c o p hr1 hr
 go_enter Tryz.func71,Tryz.ntmps71
 go_wp2_with fail
 refine (Xjl none 0 0 (M.out _ d.out) (by decide:(2:Int)≠0)).mono ?_
 rintro e w5 ⟨sv,xs,rfl,C,D,f⟩
 have R:=Xa C
 have S:=Xa ((ButE.of_below d.out).trans D)
 have T:=Xa (f.low (base':=w.heap.size) d.out.size hE)
 obtain ⟨a5,c5,rfl⟩:=f.slice
 clear C D f
 go_wp2_with fail
 go_ret
 exact ⟨_,_,rfl,by rw[z.out];exact R.out,S.out,by rw[z.out];exact T.out⟩


set_option maxRecDepth 100000 in
theorem Xo0 {B E fu:Nat} {fv v kc kn ki:Value} {fs:List FN} {x:FN} {ns:List VN} {w:World} (hx:NodeOk fs x) (k:x.kind=2) (hin:FNodeIn B w x kc kn ki) (hs:SE B E fv fs fu 0 w) (hv:NR E w v ns) (hr:(Xd ns).kind=6) (hh:Y0 (Xd ns).keys x.name=true):
  Calls Tryz.prog 71 #[.pointer (some ⟨E,0,none⟩),v,Yf x kc kn ki] w (Qy B E fv fs (Yn x ns).1 (Ze (Yn x ns)) fu w):=by
 obtain ⟨b1,o1,c1,bf,bg,bh,bj,aC,cC,aK,cK,aI,cI,NL,kr,nr,sr,KS,KM,kk,nm,pl,rr,W1,W2,W3,rfl,rfl,rfl,rfl,bk,d,o,p,M,b,z,C,g,P,b2,b3,bl,b4,b5,bm,b6,hE,q,R,t,S,D,bn,bo,bp,bq,br,b7,b8,b9,ca,f0,f1,f2,cb,cc,cd,r0,r1,r2,r3,r4,t0,t1,t2,t3,m0,m1,m2,m3,m4,T,ce⟩:=Kn hx hin hs hv
 rw[P]
 have j:Z3 (Xd ns).keys x.name<(Xd ns).kids.length:=by have V:=Xj0 hh;rw[(Y1 D.out hr).1] at V;exact V
 have F:Hid (∀W,Below w.heap.size w W->Calls Tryz.prog 128 #[.agg #[.int .i64 (Xd ns).kind, .int .i64 (Xd ns).n, .string (Xd ns).s, .slice bf (Xd ns).keys.length bg, .slice bh (Xd ns).kids.length bj], .agg #[.bool true, .string x.name, .int .i64 x.place]] W fun e w'=>e= .returned (.int .i64 (((Z3 (Xd ns).keys x.name:Nat):Int)))/\Below W.heap.size W w'):=fun W hb=>by
  have V:=Uc w.heap.size (Xd ns) _ _ ⟨true,x.name,x.place⟩ W (bn.out.below hb) hb.size (fun k6=>⟨Ja (Y1 D.out k6).2,by rw[(Y1 D.out k6).1];exact t⟩) (by simp) (by omega) (by simp<;>omega)
  rw[Xpr hr,if_pos hh] at V
  exact V
 have bs:(Xd ns).kids.length≠0:=by omega
 obtain ⟨bi,oi,bt,bu,X⟩:=bo.out (by omega)
 subst bt
 obtain ⟨f,G⟩:∃f,Z3 (Xd ns).keys x.name=f:=⟨_,rfl⟩
 rw[G] at F j
 have Y:Hid (rr=(0,PL ns f)):=by rw[Hid];rw[br.out k];unfold Vb;rw[if_neg (by omega),if_pos hr,if_pos hh,G]
 have z1:((NL:Int)-1).toNat=NL-1:=by omega
 rw[b] at t
 rw[d,o,p,M,b,C,g] at F
 unfold Yf
 rw[z,C,g]
 have e2:(kk==2)=true:=by rw[<-z,k];rfl
 rw[e2] at t0 bl
 obtain rfl:kr=6:=by rw[<-d,hr]
 have cf:¬(pl<0):=by rw[<-g,q (by omega)];decide
 have cg:0<=pl:=by omega
 rw[b] at j
 have ch:(f:Int)<(KM:Int):=by omega
 have ci:¬((f:Int)<0):=by omega
 have bv:=Xa b
 have y:∀i,i<KM->w.cell? ⟨bi,oi+i,none⟩=some (.int .i64 (Xj (Xe ns) i)):=by rw[S.out,<-b];exact X
 clear hx hin hs hv k P bm q R bk d o p M b z C g hr hh X G bs
 go_enter Tryz.func71,Tryz.ntmps71
 go_wp2_with fail
 refine (F.out W3 T.out).mono ?_
 rintro e w4 ⟨rfl,c⟩
 have l:=Xa (T.out.trans (c.mono (by omega)))
 have z4:=l.out.size
 have cj:=(Xc c (by omega)).trans r4
 clear c
 have bw:w4.cell? ⟨bi,oi+f,none⟩=some (.int .i64 (Xj (Xe ns) f)):=(Xc l.out bu).trans (y f j)
 have Z:=Xa (bp.out w4 l.out f (by rw[S.out,bv.out];exact j))
 obtain ⟨Q,hQ⟩:∃Q,Xj (Xe ns) f=Q:=⟨_,rfl⟩
 rw[hQ] at bw Z
 clear hQ y
 go_wp2_with fail
 refine Z.out.mono ?_
 rintro e w5 ⟨u,rfl,⟨a4,c4,rfl⟩,ba,c⟩
 have J:=Xa (l.out.trans (c.mono (by omega)))
 have bb:=Xa (Kb (bq.out _ J.out) ba)
 obtain ⟨L4,bc⟩:∃L4,(PL ns f).length=L4:=⟨_,rfl⟩
 rw[bc] at bb|-
 clear ba c bc
 go_wp2_with fail
 refine bb.out.mono ?_
 rintro e w6 ⟨sv,xs,rfl,bd,be,L⟩
 have bx:=Xa bd
 have bz:=Xa ((ButE.of_below J.out).trans be)
 have b0:=Xa (L.low (base':=w.heap.size) J.out.size hE)
 obtain ⟨a5,c5,rfl⟩:=L.slice
 clear bd be L
 go_wp2_with fail
 go_ret
 exact ⟨_,_,rfl,by rw[Y.out];exact bx.out,bz.out,by rw[Y.out];exact b0.out⟩


set_option maxRecDepth 100000 in
theorem Xqx {B E fu:Nat} {fv v kc kn ki:Value} {fs:List FN} {x:FN} {ns:List VN} {w:World} (hx:NodeOk fs x) (k:x.kind=2) (hin:FNodeIn B w x kc kn ki) (hs:SE B E fv fs fu 0 w) (hv:NR E w v ns) (hr:(Xd ns).kind=6) (hh:Y0 (Xd ns).keys x.name=false):
  Calls Tryz.prog 71 #[.pointer (some ⟨E,0,none⟩),v,Yf x kc kn ki] w (Qy B E fv fs (Yn x ns).1 (Ze (Yn x ns)) fu w):=by
 obtain ⟨b1,o1,c1,V,X,Y,Z,aC,cC,aK,cK,aI,cI,NL,kr,nr,sr,KS,KM,kk,nm,pl,rr,W1,W2,W3,rfl,rfl,rfl,rfl,ba,b,d,f,z,l,o,p,c,C,bk,bl,bb,bm,bn,bc,bo,hE,g,D,j,bp,F,bd,bq,br,be,bf,bs,bt,bu,bv,f0,f1,f2,bw,bx,bz,r0,r1,r2,r3,r4,t0,t1,t2,t3,m0,m1,m2,m3,m4,G,b0⟩:=Kn hx hin hs hv
 rw[C]
 have J:Hid (∀W,Below w.heap.size w W->Calls Tryz.prog 128 #[.agg #[.int .i64 (Xd ns).kind, .int .i64 (Xd ns).n, .string (Xd ns).s, .slice V (Xd ns).keys.length X, .slice Y (Xd ns).kids.length Z], .agg #[.bool true, .string x.name, .int .i64 x.place]] W fun e w'=>e= .returned (.int .i64 (-1))/\Below W.heap.size W w'):=fun W hb=>by
  have h1:=Uc w.heap.size (Xd ns) _ _ ⟨true,x.name,x.place⟩ W (bd.out.below hb) hb.size (fun k6=>⟨Ja (Y1 F.out k6).2,by rw[(Y1 F.out k6).1];exact j⟩) (by simp) (by omega) (by simp<;>omega)
  rw[Xpr hr,if_neg (by rw[hh];simp)] at h1
  exact h1
 have L:Hid (rr=(0,Jd)):=by rw[Hid];rw[bf.out k];unfold Vb;rw[if_neg (by omega),if_pos hr,if_neg (by rw[hh];simp)]
 have z1:((NL:Int)-1).toNat=NL-1:=by omega
 rw[l] at j
 rw[b,d,f,z,l,p,c] at J
 unfold Yf
 rw[o,p,c]
 have e2:(kk==2)=true:=by rw[<-o,k];rfl
 rw[e2] at t0 bb
 obtain rfl:kr=6:=by rw[<-b,hr]
 have b2:¬(pl<0):=by rw[<-c,g (by omega)];decide
 have b3:0<=pl:=by omega
 clear hx hin hs hv k C bc g D ba b d f z l o p c hr hh
 go_enter Tryz.func71,Tryz.ntmps71
 go_wp2_with fail
 refine (J.out W3 G.out).mono ?_
 rintro e w4 ⟨rfl,q⟩
 have M:=Xa (G.out.trans (q.mono (by omega)))
 have z4:=M.out.size
 have b4:=(Xc q (by omega)).trans r4
 clear q
 go_wp2_with fail
 refine (Xaf E w4 (by omega)).mono ?_
 rintro e w6 ⟨u,rfl,⟨a6,c6,rfl⟩,P,R⟩
 have t:=Xa (M.out.trans (R.mono (by omega)))
 have bg:=Xa (Kb (be.out _ t.out) P)
 clear P R
 go_wp2_with fail
 refine bg.out.mono ?_
 rintro e w5 ⟨sv,xs,rfl,S,T,y⟩
 have bh:=Xa S
 have bi:=Xa ((ButE.of_below t.out).trans T)
 have bj:=Xa (y.low (base':=w.heap.size) t.out.size hE)
 obtain ⟨a5,c5,rfl⟩:=y.slice
 clear S T y
 go_wp2_with fail
 go_ret
 exact ⟨_,_,rfl,by rw[L.out];exact bh.out,bi.out,by rw[L.out];exact bj.out⟩


set_option maxRecDepth 100000 in
theorem Xr3 {B E fu:Nat} {fv v kc kn ki:Value} {fs:List FN} {x:FN} {ns:List VN} {w:World} (hx:NodeOk fs x) (k:x.kind=3) (hin:FNodeIn B w x kc kn ki) (hs:SE B E fv fs fu 0 w) (hv:NR E w v ns) (hr:(Xd ns).kind=5) (h1:0<=x.place) (h2:x.place<((Xe ns).length:Int)):
  Calls Tryz.prog 71 #[.pointer (some ⟨E,0,none⟩),v,Yf x kc kn ki] w (Qy B E fv fs (Yn x ns).1 (Ze (Yn x ns)) fu w):=by
 obtain ⟨b1,o1,c1,bf,bg,bh,bj,aC,cC,aK,cK,aI,cI,NL,kr,nr,sr,KS,KM,kk,nm,pl,rr,W1,W2,W3,rfl,rfl,rfl,rfl,bk,f,p,q,L,b,z,C,c,M,b2,b3,bl,b4,b5,bm,b6,hE,P,R,t,j,S,bn,bo,bp,bq,b7,br,b8,b9,ca,f0,f1,f2,cb,cc,cd,r0,r1,r2,r3,r4,t0,t1,t2,t3,m0,m1,m2,m3,m4,T,ce⟩:=Kn hx hin hs hv
 rw[M]
 have D:Qc ns x.place=x.place:=by unfold Qc;rw[if_neg (by omega)]
 obtain ⟨g,l⟩:∃g:Nat,x.place=(g:Int):=⟨x.place.toNat,by omega⟩
 have F:g<(Xd ns).kids.length:=by rw[j.out] at h2;omega
 have V:Hid (∀W,Below w.heap.size w W->Calls Tryz.prog 128 #[.agg #[.int .i64 (Xd ns).kind, .int .i64 (Xd ns).n, .string (Xd ns).s, .slice bf (Xd ns).keys.length bg, .slice bh (Xd ns).kids.length bj], .agg #[.bool false, .string x.name, .int .i64 x.place]] W fun e w'=>e= .returned (.int .i64 (x.place))/\Below W.heap.size W w'):=fun W hb=>by
  have h1:=Uc w.heap.size (Xd ns) _ _ ⟨false,x.name,x.place⟩ W (bn.out.below hb) hb.size (fun k6=>⟨Ja (Y1 S.out k6).2,by rw[(Y1 S.out k6).1];exact t⟩) (.inr (by simp;omega)) (by omega) (by simp<;>omega)
  rw[Xkj hr (by omega),if_pos (by rw[j.out] at h2;exact h2)] at h1
  exact h1
 have bs:(Xd ns).kids.length≠0:=by omega
 obtain ⟨bi,oi,bt,bu,X⟩:=bo.out (by omega)
 subst bt
 have Y:Hid (rr=(0,PL ns g)):=by rw[Hid];rw[br.out k];unfold atR;rw[if_neg (by omega),if_pos hr,if_pos (by rw[D];exact ⟨h1,h2⟩),D,l,Int.toNat_natCast]
 have z1:((NL:Int)-1).toNat=NL-1:=by omega
 rw[b] at t
 rw[f,p,q,L,b,C,c] at V
 unfold Yf
 rw[z,C,c]
 have e2:(kk==2)=false:=by rw[<-z,k];rfl
 rw[e2] at t0 bl
 obtain rfl:kr=5:=by rw[<-f,hr]
 have cf:¬(pl<0):=by rw[<-c];omega
 have cg:0<=pl:=by omega
 have ch:pl.toNat=g:=by rw[<-c,l];simp
 rw[b] at F
 have ci:pl<(KM:Int):=by rw[<-c,l];omega
 have bv:=Xa b
 have y:∀i,i<KM->w.cell? ⟨bi,oi+i,none⟩=some (.int .i64 (Xj (Xe ns) i)):=by rw[j.out,<-b];exact X
 clear hx hin hs hv k M bm P R bk f p q L b z C c hr D l X bs h1 h2
 go_enter Tryz.func71,Tryz.ntmps71
 go_wp2_with fail
 refine (V.out W3 T.out).mono ?_
 rintro e w4 ⟨rfl,d⟩
 have o:=Xa (T.out.trans (d.mono (by omega)))
 have z4:=o.out.size
 have cj:=(Xc d (by omega)).trans r4
 clear d
 have bw:w4.cell? ⟨bi,oi+g,none⟩=some (.int .i64 (Xj (Xe ns) g)):=(Xc o.out bu).trans (y g F)
 have Z:=Xa (bp.out w4 o.out g (by rw[j.out,bv.out];exact F))
 obtain ⟨Q,hQ⟩:∃Q,Xj (Xe ns) g=Q:=⟨_,rfl⟩
 rw[hQ] at bw Z
 clear hQ y
 go_wp2_with fail
 refine Z.out.mono ?_
 rintro e w5 ⟨u,rfl,⟨a4,c4,rfl⟩,ba,d⟩
 have G:=Xa (o.out.trans (d.mono (by omega)))
 have bb:=Xa (Kb (bq.out _ G.out) ba)
 obtain ⟨L4,bc⟩:∃L4,(PL ns g).length=L4:=⟨_,rfl⟩
 rw[bc] at bb|-
 clear ba d bc
 go_wp2_with fail
 refine bb.out.mono ?_
 rintro e w6 ⟨sv,xs,rfl,bd,be,J⟩
 have bx:=Xa bd
 have bz:=Xa ((ButE.of_below G.out).trans be)
 have b0:=Xa (J.low (base':=w.heap.size) G.out.size hE)
 obtain ⟨a5,c5,rfl⟩:=J.slice
 clear bd be J
 go_wp2_with fail
 go_ret
 exact ⟨_,_,rfl,by rw[Y.out];exact bx.out,bz.out,by rw[Y.out];exact b0.out⟩


set_option maxRecDepth 100000 in
theorem Xrz {B E fu:Nat} {fv v kc kn ki:Value} {fs:List FN} {x:FN} {ns:List VN} {w:World} (hx:NodeOk fs x) (k:x.kind=3) (hin:FNodeIn B w x kc kn ki) (hs:SE B E fv fs fu 0 w) (hv:NR E w v ns) (hr:(Xd ns).kind=5) (h1:0<=x.place) (h2:((Xe ns).length:Int)<=x.place):
  Calls Tryz.prog 71 #[.pointer (some ⟨E,0,none⟩),v,Yf x kc kn ki] w (Qy B E fv fs (Yn x ns).1 (Ze (Yn x ns)) fu w):=by
 obtain ⟨b1,o1,c1,X,Y,Z,ba,aC,cC,aK,cK,aI,cI,NL,kr,nr,sr,KS,KM,kk,nm,pl,rr,W1,W2,W3,rfl,rfl,rfl,rfl,bb,b,d,f,y,j,l,o,c,z,bm,bn,bc,bo,bp,bd,bq,hE,C,D,g,be,F,bf,br,bs,bg,bt,bh,bu,bv,bw,f0,f1,f2,bx,bz,b0,r0,r1,r2,r3,r4,t0,t1,t2,t3,m0,m1,m2,m3,m4,G,b2⟩:=Kn hx hin hs hv
 rw[z]
 have J:Qc ns x.place=x.place:=by unfold Qc;rw[if_neg (by omega)]
 have L:Hid (∀W,Below w.heap.size w W->Calls Tryz.prog 128 #[.agg #[.int .i64 (Xd ns).kind, .int .i64 (Xd ns).n, .string (Xd ns).s, .slice X (Xd ns).keys.length Y, .slice Z (Xd ns).kids.length ba], .agg #[.bool false, .string x.name, .int .i64 x.place]] W fun e w'=>e= .returned (.int .i64 (-1))/\Below W.heap.size W w'):=fun W hb=>by
  have h1:=Uc w.heap.size (Xd ns) _ _ ⟨false,x.name,x.place⟩ W (bf.out.below hb) hb.size (fun k6=>⟨Ja (Y1 F.out k6).2,by rw[(Y1 F.out k6).1];exact g⟩) (.inr (by simp;omega)) (by omega) (by simp<;>omega)
  rw[Xkj hr (by omega),if_neg (by rw[be.out] at h2;omega)] at h1
  exact h1
 have M:Hid (rr=(0,Jd)):=by rw[Hid];rw[bh.out k];unfold atR;rw[if_neg (by omega),if_pos hr,if_neg (by rw[J];omega)]
 have z1:((NL:Int)-1).toNat=NL-1:=by omega
 rw[j] at g
 rw[b,d,f,y,j,o,c] at L
 unfold Yf
 rw[l,o,c]
 have e2:(kk==2)=false:=by rw[<-l,k];rfl
 rw[e2] at t0 bc
 obtain rfl:kr=5:=by rw[<-b,hr]
 rw[c] at h1
 have b3:¬(pl<0):=by omega
 have b4:0<=pl:=by omega
 clear hx hin hs hv k z bd C D bb b d f y j l o c hr J h2
 go_enter Tryz.func71,Tryz.ntmps71
 go_wp2_with fail
 refine (L.out W3 G.out).mono ?_
 rintro e w4 ⟨rfl,p⟩
 have P:=Xa (G.out.trans (p.mono (by omega)))
 have z4:=P.out.size
 have b5:=(Xc p (by omega)).trans r4
 clear p
 go_wp2_with fail
 refine (Xaf E w4 (by omega)).mono ?_
 rintro e w6 ⟨u,rfl,⟨a6,c6,rfl⟩,R,S⟩
 have q:=Xa (P.out.trans (S.mono (by omega)))
 have bi:=Xa (Kb (bg.out _ q.out) R)
 clear R S
 go_wp2_with fail
 refine bi.out.mono ?_
 rintro e w5 ⟨sv,xs,rfl,T,V,t⟩
 have bj:=Xa T
 have bk:=Xa ((ButE.of_below q.out).trans V)
 have bl:=Xa (t.low (base':=w.heap.size) q.out.size hE)
 obtain ⟨a5,c5,rfl⟩:=t.slice
 clear T V t
 go_wp2_with fail
 go_ret
 exact ⟨_,_,rfl,by rw[M.out];exact bj.out,bk.out,by rw[M.out];exact bl.out⟩


set_option maxRecDepth 100000 in
theorem Xow {B E fu:Nat} {fv v kc kn ki:Value} {fs:List FN} {x:FN} {ns:List VN} {w:World} (hx:NodeOk fs x) (k:x.kind=3) (hin:FNodeIn B w x kc kn ki) (hs:SE B E fv fs fu 0 w) (hv:NR E w v ns) (hr:(Xd ns).kind=5) (h1:x.place<0) (h2:x.place+((Xe ns).length:Int)<0):
  Calls Tryz.prog 71 #[.pointer (some ⟨E,0,none⟩),v,Yf x kc kn ki] w (Qy B E fv fs (Yn x ns).1 (Ze (Yn x ns)) fu w):=by
 obtain ⟨b1,o1,c1,S,T,bk,bl,aC,cC,aK,cK,aI,cI,NL,kr,nr,sr,KS,KM,kk,nm,V,rr,W1,W2,W3,rfl,rfl,rfl,rfl,X,f,s,t,Y,j,l,y,d,z,bm,bn,Z,bo,bp,ba,bq,hE,C,g,D,bb,br,bs,bt,bu,bc,bv,bd,bw,bx,be,f0,f1,f2,bz,b0,b2,r0,r1,r2,r3,r4,t0,t1,t2,t3,m0,m1,m2,m3,m4,bf,b3⟩:=Kn hx hin hs hv
 rw[z]
 have F:Qc ns x.place=x.place+((Xe ns).length:Int):=by unfold Qc;rw[if_pos h1]
 have G:Hid (rr=(0,Jd)):=by rw[Hid];rw[bd.out k];unfold atR;rw[if_neg (by omega),if_pos hr,if_neg (by rw[F];omega)]
 have z1:((NL:Int)-1).toNat=NL-1:=by omega
 rw[j] at D
 unfold Yf
 rw[l,y,d]
 have e2:(kk==2)=false:=by rw[<-l,k];rfl
 rw[e2] at t0 Z
 obtain rfl:kr=5:=by rw[<-f,hr]
 obtain ⟨q,hq⟩:∃q,V+(KM:Int)=q:=⟨_,rfl⟩
 obtain ⟨c,b⟩:∃c,W3.setCell ⟨w.heap.size+2,2,none⟩ (.int .i64 q)=c:=⟨_,rfl⟩
 have J:Hid (Below w.heap.size w c):=by rw[Hid,<-b];exact bf.out.setCell (by simp) _
 have b4:c.heap.size=w.heap.size+3:=by rw[<-b];simp[be]
 have v0:c.cell? ⟨w.heap.size+2,0,none⟩=some (.bool false):=by rw[<-b,World.cell?_setCell_other (h:=by simp)];exact t0
 have v1:c.cell? ⟨w.heap.size+2,1,none⟩=some (.string nm):=by rw[<-b,World.cell?_setCell_other (h:=by simp)];exact t1
 have v2:c.cell? ⟨w.heap.size+2,2,none⟩=some (.int .i64 q):=by rw[<-b];exact World.cell?_setCell_same _ _ _ t2
 have x0:c.cell? ⟨w.heap.size+1,0,none⟩=some (.int .i64 5):=by rw[<-b,World.cell?_setCell_other (h:=by simp)];exact r0
 have x1:c.cell? ⟨w.heap.size+1,1,none⟩=some (.int .i64 nr):=by rw[<-b,World.cell?_setCell_other (h:=by simp)];exact r1
 have x2:c.cell? ⟨w.heap.size+1,2,none⟩=some (.string sr):=by rw[<-b,World.cell?_setCell_other (h:=by simp)];exact r2
 have x3:c.cell? ⟨w.heap.size+1,3,none⟩=some (.slice S KS T):=by rw[<-b,World.cell?_setCell_other (h:=by simp)];exact r3
 have x4:=r4
 rw[<-World.cell?_setCell_other (v:= .int .i64 q) (a:=⟨w.heap.size+2,2,none⟩) (h:=by simp),b] at x4
 have b5:V<0:=by rw[<-d];exact h1
 have b6: -80<=V:=by have:=g k;omega
 have b7:q<0:=by rw[<-hq,<-d,<-j];rw[bb.out] at h2;exact h2
 have b8:¬(0<=q):=by omega
 clear hx hin hs hv k z ba C g X f s t Y j l y d hr F h1 h2
 go_enter Tryz.func71,Tryz.ntmps71
 go_wp2_with fail
 refine (Xaf E c (by omega)).mono ?_
 rintro e w6 ⟨u,rfl,⟨a6,c6,rfl⟩,L,M⟩
 have o:=Xa (J.out.trans (M.mono (by omega)))
 have bg:=Xa (Kb (bc.out _ o.out) L)
 clear L M
 go_wp2_with fail
 refine bg.out.mono ?_
 rintro e w5 ⟨sv,xs,rfl,P,R,p⟩
 have bh:=Xa P
 have bi:=Xa ((ButE.of_below o.out).trans R)
 have bj:=Xa (p.low (base':=w.heap.size) o.out.size hE)
 obtain ⟨a5,c5,rfl⟩:=p.slice
 clear P R p
 go_wp2_with fail
 go_ret
 exact ⟨_,_,rfl,by rw[G.out];exact bh.out,bi.out,by rw[G.out];exact bj.out⟩


set_option maxRecDepth 100000 in
theorem Xny {B E d:Nat} {fv v:Value} {fs:List FN} {ns:List VN} {n fu:Nat} {w:World} (ho:Qi B E fv fs d) (hn:n<fs.length) (hs:SE B E fv fs fu 0 w) (hv:NR E w v ns) (hd:fu<=d):
  Calls Tryz.prog 81 #[.pointer (some ⟨E,0,none⟩), .int .i64 n,v] w (RunAns B E (100 *(d+1)) fv fs (Zp (Xh fs d n ns fu)).c (Zp (Xh fs d n ns fu)).l (Zp (Xh fs d n ns fu)).fu w):=by
 have t:=Xa (ho n v ns fu w hn hs hv hd)
 obtain ⟨av,cv,rfl⟩:=hv.slice
 obtain ⟨L,S⟩:∃L,ns.length=L:=⟨_,rfl⟩
 obtain ⟨r,T⟩:∃r,Xh fs d n ns fu=r:=⟨_,rfl⟩
 rw[T] at t|-
 rw[S] at t|-
 have y:Hid (Zp r=if r.c=2 then ⟨0,[],r.fu⟩ else r):=rfl
 have Y:Hid (E<w.heap.size):=hs.lt
 obtain ⟨H,V⟩:∃H,Zp r=H:=⟨_,rfl⟩
 rw[V] at y|-
 clear ho hn hs hv S T V
 go_enter Tryz.func81,Tryz.ntmps81
 go_wp2_with fail
 refine t.out.mono ?_
 rintro e w1 ⟨sv,Z,m,rfl,b,j,f,o,p⟩
 obtain ⟨_,_,X,_,f2⟩:=b.cells
 have z:=Xa b
 have g:=Xa (b.set 0)
 have q:=Xa j
 have D:=Xa f
 have F:=Xa o
 have G:=Xa p
 obtain ⟨a1,c1,rfl⟩:=f.slice
 by_cases e2:r.c=2
 ·have s:Hid (H=⟨0,[],r.fu⟩):=by rw[Hid,y.out,if_pos e2]
  rw[e2] at X
  clear b j f o p e2
  go_wp2_with fail
  go_ret
  exact ⟨_,_,[],rfl,by rw[s.out];exact g.out.1,q.out.trans g.out.2,LR.nil Y.out,fun _=>by rw[s.out],Nat.zero_le _⟩
 ·have s:Hid (H=r):=by rw[Hid,y.out,if_neg e2]
  obtain ⟨C,J⟩:∃C,r.c=C:=⟨_,rfl⟩
  have ba:=Xa J
  rw[J] at X e2
  have q2:(C==2)=false:=by simpa using e2
  obtain ⟨M,P⟩:∃M,m.length=M:=⟨_,rfl⟩
  have R:=Xa P
  rw[P]
  clear b j f o p e2 J P
  go_wp2_with fail
  go_ret
  exact ⟨.slice a1 M c1,Z,m,rfl,by rw[s.out];exact z.out,q.out,by rw[<-R.out];exact D.out,fun h=>by rw[s.out] at h|-;exact F.out h,G.out⟩


theorem Xrh {P:Program} {w:World} {ops:Array Oper} {o:Oper} {a:Act} {K:Act->World->Prop} {Q:Exit->Act->World->Prop} {E:Prop} (hgd:o.guard=none) (F:FuncId) (x1 x2 x3:Operand) (T1 T2 T3:TypeId)
  (ho:o.op= .call {callee:= .value (.func F),args:= #[x1,x2,x3],argTypes:= #[T1,T2,T3]}) (v1 v2 v3:Value) (h1:a.eval x1=v1) (h2:a.eval x2=v2) (h3:a.eval x3=v3) (hcf:∀w,(callFunc F #[v1,v2,v3]).run P w= .ok (.enter F #[v1,v2,v3]) w) {R:Ending->World->Prop} (hc:Calls P F #[v1,v2,v3] w R)
  (h:∀e w',R e w'->∃u,e= .returned u/\K (a.put o.dst u) w'):
  if Region.wanted o (yielded ops a.tmps)=true then Oper.wp P o a w K Q else E:=by
 have b:Region.wanted o (yielded ops a.tmps)=true:=by simp[Region.wanted,hgd]
 rw[if_pos b]
 unfold Oper.wp execOp
 have c:a.eval (.func F)= .func (.func F) #[] #[]:=rfl
 simp[ho,resolve,invoke,h1,h2,h3,c,Deferred.ofValue,hcf,Result.andThen,Oper.upon_enter]
 refine hc.mono fun e w' hr=> ?_
 obtain ⟨u,rfl,d⟩:=h e w' hr
 exact d
theorem ButE.cellE {E:Nat} {w w':World} (h:ButE E w w') {b o:Nat} {v:Value} (hn:b≠E) (hc:w.cell? ⟨b,o,none⟩=some v):w'.cell? ⟨b,o,none⟩=some v:=
 (World.cell?_of_block (w:=w) (w':=w') (a:=⟨b,o,none⟩) (h.block b (X9 hc) hn)).trans hc
theorem RunAns.ahead {B E M:Nat} {fv:Value} {fs:List FN} {c:Int} {l:List (List VN)} {fu:Nat} {w W w':World} {e:Ending} (h:RunAns B E M fv fs c l fu W e w') (hb:Below w.heap.size w W) (hE:E<w.heap.size):RunAns B E M fv fs c l fu w e w':=by
 obtain ⟨d,f,m,g,j,b,o,p,q⟩:=h
 exact ⟨d,f,m,g,j,(ButE.of_below hb).trans b,o.low hb.size hE,p,q⟩
theorem Ks {B E d:Nat} {fv v:Value} {fs:List FN} (ho:Qi B E fv fs d) {n:Nat} {ns:List VN} {fu:Nat} {w W:World} (hn:n<fs.length) (hs:SE B E fv fs fu 0 w) (hv:NR E w v ns) (hd:fu<=d) (hb:Below w.heap.size w W):
  Calls Tryz.prog 35 #[.pointer (some ⟨E,0,none⟩), .int .i64 n,v] W (RunAns B E (100 *(d+1)) fv fs (Xh fs d n ns fu).c (Xh fs d n ns fu).l (Xh fs d n ns fu).fu w):=
 (ho n v ns fu W hn (hs.below hb) (hv.below hb) hd).mono fun e w' h=>h.ahead hb hs.lt
structure Loop (B E:Nat) (fv:Value) (fs:List FN) (d:Nat) (W2:World) (av:Value) (axs:List Value) (m:List (List VN)) (c:Int) (fu:Nat) (o:Value) (oxs:List Value) (out:List (List VN)) (wr:World):Prop where
 se:SE B E fv fs fu c wr
 but:ButE E W2 wr
 lo:LR E W2.heap.size wr o oxs out
 la:LR E W2.heap.size wr av axs m
 apart:av.ownBlock=none\/av.ownBlock≠o.ownBlock
 few:out.length<=40+100 *(d+1)
 fud:fu<=d
theorem Loop.keep {B E d fu fu':Nat} {fv av o:Value} {fs:List FN} {W2 wr w':World} {axs oxs:List Value} {m out:List (List VN)} {c c':Int} (h:Loop B E fv fs d W2 av axs m c fu o oxs out wr) (hb:ButE E wr w') (hs:SE B E fv fs fu' c' w') (hf:fu'<=d):Loop B E fv fs d W2 av axs m c' fu' o oxs out w':=
 ⟨hs,h.but.trans hb,h.lo.keep hb,h.la.keep hb,h.apart,h.few,hf⟩
theorem Loop.app {B E d fu:Nat} {fv av o v':Value} {fs:List FN} {W2 w5 w6:World} {axs oxs xs5:List Value} {m out m5:List (List VN)} {c:Int} (h:Loop B E fv fs d W2 av axs m c fu o oxs out w5) (hl:xs5.length=m5.length) (hm:∀j,j<m5.length->NR E w5 (xs5.getD j undef) (Xn m5 j))
  (hown:w6.ownsRow W2.heap.size 25 1 v' (out.length+m5.length) (oxs++xs5)) (hg:w5.grownBy w6 o.ownBlock) (hat:v'.ownBlock=o.ownBlock\/v'.ownBlock=some w5.heap.size) (hfew:out.length+m5.length<=40+100 *(d+1)):Loop B E fv fs d W2 av axs m c fu v' (oxs++xs5) (out++m5) w6:=by
 obtain ⟨f,b⟩:=h.lo.append hl hm hown hg
 refine ⟨h.se.grown h.lo.row h.lo.lo hg,FrX.toBut h.but b (fun x hx=>(h.lo.row.lt x hx).1),f,h.la.keepX b h.apart, ?_,by rw[List.length_append];exact hfew,h.fud⟩
 rcases h.apart with e|e
 ·exact .inl e
 ·rcases hat with e2|e2
  ·exact .inr (by rw[e2];exact e)
  ·cases e3:av.ownBlock with
   |none=>exact .inl rfl
   |some x=>exact .inr (by rw[e2];intro g;cases g;have:=(h.la.row.lt _ e3).2;omega)
theorem Xoe {E:Nat} {w:World} {v:Value} {vs:List VN} (h:NR E w v vs):∀j,j< [vs].length->NR E w ([v].getD j undef) (Xn [vs] j):=by
 intro j b
 obtain rfl:j=0:=by simpa using b
 exact h


set_option maxRecDepth 100000 in
theorem Xyx {B E d j n:Nat} {fv v:Value} {fs:List FN} {x:FN} {ns:List VN} {w:World} (hok:okF fs=true) (ho:Qi B E fv fs d) (hx:NodeOk fs x) (k:x.kind=8) (h0:x.kids.length=0) (hn:n<fs.length) (hxn:Xo fs n=x) (hse:SE B E fv fs (j+1) 0 w) (hv:NR E w v ns) (hj:j<=d) (hd:d<=100000):
  Calls Tryz.prog 35 #[.pointer (some ⟨E,0,none⟩), .int .i64 n,v] w (RunAns B E (100 *(d+2)) fv fs (evM (Xh fs d) x ns Xl (j,[])).1 (evM (Xh fs d) x ns Xl (j,[])).2.2 (evM (Xh fs d) x ns Xl (j,[])).2.1 w):=by
 obtain ⟨W1,W2,Z,b0,o0,bo,aC,cC,aK,cK,aI,cI,hp⟩:=Ql hse hn hxn
 obtain ⟨ba,q0,q1,q2,z1,bp,p0,s0,s1,s2,s3,s4,s5,t,bb,g1,g2,g3,f,g,b,c,hE,hB⟩:=hp
 have bc:=Xa f
 have bd:=Xa g
 have bq:=Xa b
 have br:=Xa c
 have bs:Hid (NR E Z v ns):=(hv.but g).below b
 have bt:=Xa hv.ok
 have HO:=Xa ho
 have HX:=Xa hx
 have HE:=Xa hE
 obtain ⟨av,cv,rfl⟩:=hv.slice
 obtain ⟨R,Y⟩:∃R,evM (Xh fs d) x ns Xl (j,[])=R:=⟨_,rfl⟩
 have bu:=Xa Y
 rw[Y]
 have be:(n:Int)<(fs.length:Int):=by omega
 have bv:¬((j:Int)+1=0):=by omega
 have bw:(j:Int)<=1000000:=by omega
 obtain ⟨NF,y⟩:∃NF,fs.length=NF:=⟨_,rfl⟩
 rw[y] at q0 p0 be hn
 have y0:=(Xc b (by omega)).trans c.c0
 have y1:=(Xc b (by omega)).trans c.c1
 have y2:=(Xc b (by omega)).trans c.c2
 have y3:=(Xc b (by omega)).trans c.c3
 have y4:=(Xc b (by omega)).trans c.c4
 have y5:=(Xc b (by omega)).trans c.c5
 obtain ⟨KK,z⟩:∃KK,x.kind=KK:=⟨_,rfl⟩
 rw[z] at s0 t y0
 obtain rfl:KK=8:=by omega
 obtain ⟨l,p⟩:∃l,Yp (Zo [])=l:=⟨_,rfl⟩
 have bf:Hid (Yp (Yj 5 [] (Xn []) ([]:List (List VN)).length)=l):=p
 have bg:Hid (Now R Yi l.1 j (Ze l)):=by
  have h1:=Xxq (R:=R) (oc:=Xh fs d) (v:=ns) (fu:=j) h0 (by rw[<-Xgf k];exact Y)
  rw[p] at h1
  exact h1
 have bh:Hid (LR E (w.heap.size+1) Z (.slice (some ⟨w.heap.size+1,0,none⟩) 0 0) [] []):=by rw[Hid,<-bb,<-g2];exact ⟨World.ownsRow_lit W2 #[] 0 (Nat.le_refl _) (by simp[maxLen]) rfl,by omega,fun j hj=>absurd hj (by simp)⟩
 have C:Hid (ButE E W2 Z):= .of_below b
 obtain ⟨_,_,bx,_,bz⟩:=f.cells
 obtain ⟨KL,D⟩:∃KL,x.kids.length=KL:=⟨_,rfl⟩
 rw[D] at s5 t y5
 obtain rfl:KL=0:=by omega
 clear hse hv ho hx hxn hok Y ba f g b c y z hE hB k h0 p D
 go_enter Tryz.func35,Tryz.ntmps35
 go_wp2_with fail
 refine (Xag (kind:=5) (kv:= .slice none 0 0) (keys:= []) (by decide) (by decide) bh.out (by simp) (StrsAt.nil 0 _) (Nat.zero_le _) (by simp) (fun i hi=>absurd hi (by simp))).mono ?_
 rintro e w5 ⟨u,b1,b2,rfl,q,o,bi,F⟩
 have G:=Xa (Ur (E:=E) q (by have:=HE.out;omega) (by omega) F)
 have bj:Hid (Yp (Yj 5 [] (Xn []) ([]).length)=l):=bf.out
 rw[bj.out] at G
 have bk:=Xa (C.out.trans (.of_below o))
 have bl:=Xa (bc.out.below o)
 have z5:=o.size
 obtain ⟨a5,c5,e5⟩:=Xg q.row
 obtain ⟨L5,J⟩:∃L5,(Yj 5 [] (Xn []) ([]).length).length=L5:=⟨_,rfl⟩
 rw[J] at e5
 subst e5
 clear q o bi F J
 go_wp2_with fail
 refine G.out.mono ?_
 rintro e w6 ⟨u6,rfl,⟨a6,l6,c6,rfl⟩,L,s⟩
 have bm:=Xa (bk.out.trans (.of_below s))
 have P:=Xa (Xbj (bl.out.below s) ⟨a6,l6,c6,rfl⟩ L)
 have bn:Hid ((Ze l).length<=100 *(d+2)):=by have:=V6 l;unfold Hid;omega
 have S:=Xa bg.out
 obtain ⟨rc,T⟩:∃rc,l.1=rc:=⟨_,rfl⟩
 rw[T] at P S|-
 clear L s T
 go_wp2_with fail
 refine P.out.mono ?_
 rintro e w7 ha
 have HA:=Xa (Vi (M:=100 *(d+2)) ha S.out bd.out bm.out HE.out bn.out)
 obtain ⟨b3,b4,rfl,-,-,V⟩:=ha
 obtain ⟨a7,c7,rfl⟩:=V.slice
 obtain ⟨L7,X⟩:∃L7,(Ze l).length=L7:=⟨_,rfl⟩
 rw[X] at HA|-
 clear V X
 go_wp2_with fail
 go_ret
 exact HA.out


set_option maxRecDepth 100000 in
theorem Xw1 {B E d j n:Nat} {fv v:Value} {fs:List FN} {x:FN} {ns:List VN} {w:World} (hok:okF fs=true) (ho:Qi B E fv fs d) (hx:NodeOk fs x) (k:x.kind=8) (h1:x.kids.length=1) (hn:n<fs.length) (hxn:Xo fs n=x) (hse:SE B E fv fs (j+1) 0 w) (hv:NR E w v ns) (hj:j<=d) (hd:d<=100000):
  Calls Tryz.prog 35 #[.pointer (some ⟨E,0,none⟩), .int .i64 n,v] w (RunAns B E (100 *(d+2)) fv fs (evM (Xh fs d) x ns Xl (j,[])).1 (evM (Xh fs d) x ns Xl (j,[])).2.2 (evM (Xh fs d) x ns Xl (j,[])).2.1 w):=by
 obtain ⟨W1,W2,W3,b0,o0,cd,aC,cC,aK,cK,aI,cI,hp⟩:=Ql hse hn hxn
 obtain ⟨bp,q0,q1,q2,z1,ce,p0,s0,s1,s2,s3,s4,s5,bq,cf,g1,g2,g3,z,g,b,f,hE,hB⟩:=hp
 have br:=Xa z
 have V:=Xa g
 have bs:=Xa b
 have cg:=Xa f
 have bt:Hid (NR E W3 v ns):=(hv.but g).below b
 have ch:=Xa hv.ok
 have HO:=Xa ho
 have HX:=Xa hx
 have HE:=Xa hE
 obtain ⟨av,cv,rfl⟩:=hv.slice
 obtain ⟨R,X⟩:∃R,evM (Xh fs d) x ns Xl (j,[])=R:=⟨_,rfl⟩
 have ci:=Xa X
 rw[X]
 have bu:(n:Int)<(fs.length:Int):=by omega
 have cj:¬((j:Int)+1=0):=by omega
 have ck:(j:Int)<=1000000:=by omega
 obtain ⟨NF,Y⟩:∃NF,fs.length=NF:=⟨_,rfl⟩
 rw[Y] at q0 p0 bu hn
 have y0:=(Xc b (by omega)).trans f.c0
 have y1:=(Xc b (by omega)).trans f.c1
 have y2:=(Xc b (by omega)).trans f.c2
 have y3:=(Xc b (by omega)).trans f.c3
 have y4:=(Xc b (by omega)).trans f.c4
 have y5:=(Xc b (by omega)).trans f.c5
 obtain ⟨KK,Z⟩:∃KK,x.kind=KK:=⟨_,rfl⟩
 rw[Z] at s0 bq y0
 have bv:=h1
 obtain ⟨kb,ko,cb,ek,cl,k4⟩:=f.inn.kids.get (j:=0) (by omega)
 injection ek with ek1 ek2 ek3
 subst ek1 ek3
 obtain ⟨bw,bx⟩:=hx.kid 0 (by omega)
 obtain ⟨T,ba⟩:∃T:Nat,Xk x 0=(T:Int):=⟨(Xk x 0).toNat,by omega⟩
 have D:Hid (T<fs.length/\(Xk x 0).toNat=T):=by unfold Hid;omega
 have cm:W3.cell? ⟨kb,ko,none⟩=some (.int .i64 (T:Int)):=by rw[<-ba];exact (Xc b (by omega)).trans (by unfold Xk;simpa using k4)
 obtain rfl:KK=8:=by omega
 obtain ⟨r,hr⟩:∃r,Xh fs d T ns j=r:=⟨_,rfl⟩
 have bb:r.l.length<=40:=by rw[<-hr];exact (Zf hok d).few _ _ _ hv.ok
 have bz:=Xa bb
 have b1:Hid (r.c≠0->R=(r.c,(r.fu,[]))):=fun e=>Xxr (oc:=Xh fs d) (x:=x) (v:=ns) (fu:=j) (R:=R) (by omega) (by rw[D.out.2];exact hr) (by rw[<-Xgf k];exact X) e
 have bc:Hid (r.c=0->Now R Yi (Yp (Zo r.l)).1 r.fu (Ze (Yp (Zo r.l)))):=fun e=>Xxs (oc:=Xh fs d) (x:=x) (v:=ns) (fu:=j) (R:=R) (by omega) (by rw[D.out.2];exact hr) (by rw[<-Xgf k];exact X) e
 have HC:=Xa (Ks HO.out D.out.1 br.out bt.out hj (Below.refl _ _))
 rw[hr] at HC
 have cn:0<x.kids.length:=by omega
 have cc:(0:Int)<(x.kids.length:Int):=by omega
 clear hse hv ho hx hxn hok X bp z g b f Y Z hE hB k k4 bv bw bx ba hr h1 bb
 go_enter Tryz.func35,Tryz.ntmps35
 go_wp2_with fail
 refine HC.out.mono ?_
 rintro e w4 ⟨sv,xs,m,rfl,p,q,s,F,bd⟩
 obtain ⟨_,_,be,_,co⟩:=p.cells
 have G:=Xa p
 have bf:=Xa ((ButE.of_below bs.out).trans q)
 have b2:=Xa s
 have z4:=q.size
 obtain ⟨a4,c4,rfl⟩:=s.slice
 by_cases h0:r.c=0
 ·obtain rfl:=F h0
  obtain ⟨o,J⟩:∃o,Yp (Zo r.l)=o:=⟨_,rfl⟩
  have b3:Hid (Yp (Yj 5 [] (Xn r.l) r.l.length)=o):=J
  have b4:Hid (Now R Yi o.1 r.fu (Ze o)):=by have h1:=bc.out h0;rw[J] at h1;exact h1
  rw[h0] at be G
  obtain ⟨M,L⟩:∃M,r.l.length=M:=⟨_,rfl⟩
  have cp:=Xa L
  have bg:Hid (LR E W3.heap.size w4 (.slice a4 M c4) xs r.l):=by rw[Hid,<-L];exact b2.out
  rw[L]
  clear p q s F bd h0 J L
  go_wp2_with fail
  refine (Xag (kind:=5) (kv:= .slice none 0 0) (keys:= []) (by decide) (by decide) bg.out (by have:=bz.out;omega) (StrsAt.nil 0 _) (Nat.zero_le _) (by simp) (fun i hi=>absurd hi (by simp))).mono ?_
  rintro e w5 ⟨u,cq,cr,rfl,P,t,b5,bh⟩
  have bi:=Xa (Ur (E:=E) P (by have:=HE.out;omega) (by omega) bh)
  have b6:Hid (Yp (Yj 5 [] (Xn r.l) (r.l).length)=o):=b3.out
  rw[b6.out] at bi
  have b7:=Xa (bf.out.trans (.of_below t))
  have b8:=Xa (G.out.below t)
  have z5:=t.size
  obtain ⟨a5,c5,e5⟩:=Xg P.row
  obtain ⟨L5,bj⟩:∃L5,(Yj 5 [] (Xn r.l) (r.l).length).length=L5:=⟨_,rfl⟩
  rw[bj] at e5
  subst e5
  clear P t b5 bh bj
  go_wp2_with fail
  refine bi.out.mono ?_
  rintro e w6 ⟨u6,rfl,⟨a6,l6,c6,rfl⟩,bk,S⟩
  have b9:=Xa (b7.out.trans (.of_below S))
  have bl:=Xa (Xbj (b8.out.below S) ⟨a6,l6,c6,rfl⟩ bk)
  have ca:Hid ((Ze o).length<=100 *(d+2)):=by have:=V6 o;unfold Hid;omega
  have y:=Xa b4.out
  obtain ⟨rc,bm⟩:∃rc,o.1=rc:=⟨_,rfl⟩
  rw[bm] at bl y|-
  clear bk S bm
  go_wp2_with fail
  refine bl.out.mono ?_
  rintro e w7 ha
  have HA:=Xa (Vi (M:=100 *(d+2)) ha y.out V.out b9.out HE.out ca.out)
  obtain ⟨cs,ct,rfl,-,-,bn⟩:=ha
  obtain ⟨a7,c7,rfl⟩:=bn.slice
  obtain ⟨L7,bo⟩:∃L7,(Ze o).length=L7:=⟨_,rfl⟩
  rw[bo] at HA|-
  clear bn bo
  go_wp2_with fail
  go_ret
  exact HA.out
 ·have y:Hid (Now R Yi r.c r.fu []):=Xo2 h0 (b1.out h0)
  have HA:=Xa (Qx (M:=100 *(d+2)) (e:= .returned (.slice none 0 0)) (m:= []) rfl y.out G.out V.out bf.out (LR.nil (base:=W3.heap.size) (by have:=HE.out;omega)) (by omega) HE.out (by simp))
  obtain ⟨C,hC⟩:∃C,r.c=C:=⟨_,rfl⟩
  rw[hC] at be h0
  have q0:(C !=0)=true:=by simpa using h0
  have q1:(C==0)=false:=by simpa using h0
  obtain ⟨M,L⟩:∃M,m.length=M:=⟨_,rfl⟩
  rw[L]
  clear p q s F bd h0 hC L
  go_wp2_with fail
  go_ret
  exact HA.out


set_option maxRecDepth 100000 in
theorem X2w {B E d j n:Nat} {fv v:Value} {fs:List FN} {x:FN} {ns:List VN} {w:World} (hok:okF fs=true) (ho:Qi B E fv fs d) (hx:NodeOk fs x) (k:x.kind=21) (hn:n<fs.length) (hxn:Xo fs n=x) (hse:SE B E fv fs (j+1) 0 w) (hv:NR E w v ns) (hj:j<=d) (hd:d<=100000):
  Calls Tryz.prog 35 #[.pointer (some ⟨E,0,none⟩), .int .i64 n,v] w (RunAns B E (100 *(d+2)) fv fs (evM (Xh fs d) x ns Xl (j,[])).1 (evM (Xh fs d) x ns Xl (j,[])).2.2 (evM (Xh fs d) x ns Xl (j,[])).2.1 w):=by
 obtain ⟨W1,W2,W3,b0,o0,d6,aC,cC,aK,cK,aI,cI,hp⟩:=Ql hse hn hxn
 obtain ⟨c7,q0,q1,q2,z1,c8,p0,s0,s1,s2,s3,s4,s5,bw,bx,g1,g2,g3,bf,G,g,p,hE,hB⟩:=hp
 have c9:=Xa bf
 have bk:=Xa G
 have bz:=Xa g
 have da:=Xa p
 have b1:Hid (NR E W3 v ns):=(hv.but G).below g
 have d7:=Xa hv.ok
 have HO:=Xa ho
 have HX:=Xa hx
 have HE:=Xa hE
 obtain ⟨av,cv,rfl⟩:=hv.slice
 obtain ⟨R,hR⟩:∃R,evM (Xh fs d) x ns Xl (j,[])=R:=⟨_,rfl⟩
 have d8:=Xa hR
 rw[hR]
 have db:(n:Int)<(fs.length:Int):=by omega
 have d9:¬((j:Int)+1=0):=by omega
 have fa:(j:Int)<=1000000:=by omega
 obtain ⟨NF,b2⟩:∃NF,fs.length=NF:=⟨_,rfl⟩
 rw[b2] at q0 p0 db hn
 have y0:=(Xc g (by omega)).trans p.c0
 have y1:=(Xc g (by omega)).trans p.c1
 have y2:=(Xc g (by omega)).trans p.c2
 have y3:=(Xc g (by omega)).trans p.c3
 have y4:=(Xc g (by omega)).trans p.c4
 have y5:=(Xc g (by omega)).trans p.c5
 obtain ⟨KK,b3⟩:∃KK,x.kind=KK:=⟨_,rfl⟩
 rw[b3] at s0 bw y0
 have b4:Hid (NR E W2 (.slice av ns.length cv) ns):=hv.but G
 have dc:=hx.two (by omega)
 obtain ⟨kb,ko,dz,ek,fb,k4⟩:=p.inn.kids.get (j:=0) (by omega)
 injection ek with bl ek2 ek3
 subst bl ek3
 obtain ⟨dd,de⟩:=hx.kid 0 (by omega)
 obtain ⟨K0,b5⟩:∃K0:Nat,Xk x 0=(K0:Int):=⟨(Xk x 0).toNat,by omega⟩
 have b6:Hid (K0<fs.length/\(Xk x 0).toNat=K0):=by unfold Hid;omega
 have df:W3.cell? ⟨kb,ko,none⟩=some (.int .i64 (K0:Int)):=by rw[<-b5];exact (Xc g (by omega)).trans (by unfold Xk;simpa using k4)
 have ba:=(show IntsAt B W2 _ x.kids from p.inn.kids).get (j:=1) (by omega)
 obtain ⟨fc,fd,dg,bl,d0,ba⟩:=ba
 injection bl with eb1 eb2 eb3
 injection eb1 with eb1
 injection eb1 with eb1 eb4 eb5
 clear eb2 eb3 eb5
 subst eb1 eb4
 obtain ⟨b7,b8⟩:=hx.kid 1 (by omega)
 obtain ⟨V,b9⟩:∃V:Nat,Xk x 1=(V:Int):=⟨(Xk x 1).toNat,by omega⟩
 have ca:Hid (V<fs.length/\(Xk x 1).toNat=V):=by unfold Hid;omega
 have dh:W2.cell? ⟨kb,ko+1,none⟩=some (.int .i64 (V:Int)):=by rw[<-b9];exact ba
 obtain rfl:KK=21:=by omega
 obtain ⟨q,X⟩:∃q,Zp (Xh fs d K0 ns j)=q:=⟨_,rfl⟩
 have fe:=Xa X
 have cb:Hid (q.fu<=j):=by rw[Hid,<-X];exact (Xao (Zf hok d) K0 hv.ok j).2
 have ff:Hid (∀n ns fu,okB ns=true->(Xh fs d n ns fu).fu<=fu):=(Zf hok d).le
 have bm:Gp (Xh fs d) (Xk x 1) ns Xl q []=R:=by rw[<-hR,Xxm k,b6.out.2,X]
 have di:Hid (∀m:List (List VN),(q.c=0->m=q.l)->(Qu m m.length).length≠0->Now R Yi (Zj q.c (Qu m m.length).length) q.fu (Qu m m.length)):=fun m h ht=>by
  rw[Xnu] at ht|-
  exact X1b h bm ht
 have dj:Hid (∀m:List (List VN),(q.c=0->m=q.l)->(Qu m m.length).length=0->Now R (Xp (Xh fs d) (Xk x 1) ns Xl) q.c q.fu []):=fun m h ht=>by
  rw[Xnu] at ht
  exact Xxt h bm ht
 have HC:=Xa (Xny HO.out b6.out.1 c9.out b1.out hj)
 rw[X] at HC
 have dk:Hid (LR E W2.heap.size W3 (.slice (some ⟨w.heap.size+1,0,none⟩) 0 0) [] []):=by rw[Hid,<-bx,<-g2];exact ⟨World.ownsRow_lit W2 #[] 0 (Nat.le_refl _) (by simp[maxLen]) rfl,by omega,fun j hj=>absurd hj (by simp)⟩
 have fg:=hE
 have cc:kb≠E:=by omega
 have s:1<x.kids.length:=by omega
 have d1:(1:Int)<(x.kids.length:Int):=by omega
 have d2:0<x.kids.length:=by omega
 have d3:(0:Int)<(x.kids.length:Int):=by omega
 obtain ⟨i0,dl,dm,dp,dq⟩:=info_parts Ka
 obtain ⟨LN,bn⟩:∃LN,ns.length=LN:=⟨_,rfl⟩
 have fh:=Xa bn
 rw[bn] at HC b4 b1|-
 clear hse hv ho hx hxn hok hR c7 bf G g p b2 b3 hE hB k k4 dc dd de b5 X bn bm b9 ba b7 b8
 go_enter Tryz.func35,Tryz.ntmps35
 go_wp2_with fail
 refine HC.out.mono ?_
 rintro e w4 ⟨sv,xs,m,rfl,cd,bo,bb,ce,dr⟩
 have cf:q.fu<=d:=by have:=cb.out;omega
 have f:Hid (Loop B E fv fs d W2 sv xs m q.c q.fu (.slice (some ⟨w.heap.size+1,0,none⟩) 0 0) [] (Qu m 0) w4):=
  ⟨cd, (ButE.of_below bz.out).trans bo, dk.out.keep bo, bb.low bz.out.size (by have := HE.out; omega), by
   cases e3:sv.ownBlock with
   |none=>exact .inl rfl
   |some y=>exact .inr (by have:=(bb.row.lt _ e3).1;simp only[Value.ownBlock];intro e4;injection e4 with e4;omega),by simp[Xk5,Xk6],cf⟩
 obtain ⟨a4,c4,rfl⟩:=bb.slice
 obtain ⟨M,hM⟩:∃M,m.length=M:=⟨_,rfl⟩
 have J:=Xa hM
 have fi:M<=20000000:=by omega
 have fj:M<=100 *(d+1):=by omega
 have cg:=Xa ce
 have bc:=Xa g2
 have fk:=Xa g3
 rw[hM] at f|-
 clear cd bo bb ce dr hM g1 g2 g3 y0 y1 y2 y3 y4 y5 c8 bw bx s0 s1 s2 s3 s4 s5 p0 q0 q1 q2 z1 df
 go_wp2_with fail
 go_loopw [8,20] (fun o i wr=>∃(k:Nat) (bd:List Value),k<=M/\i= .int .i64 k/\Loop B E fv fs d W2 (.slice a4 M c4) xs m q.c q.fu o bd (Qu m k) wr) (fun _ i _=>M-(intOf i).toNat)
 case atStart=>exact ⟨0,[],Nat.zero_le _,rfl,f.out⟩
 case round=>
  obtain ⟨k,bd,hk,rfl,s⟩:=hrel
  have f:=Xa s
  obtain ⟨ao,co,rfl⟩:=s.lo.slice
  have zs:=s.but.size
  have ch:=Xz3 m k
  by_cases hlt:k<M
  ·have d4:(k:Int)<(M:Int):=by omega
   obtain ⟨b,ax,cx,rfl,fl,C,bp⟩:=s.la.cell (j:=k) (by rw[J.out];exact hlt)
   have ci:=Xa bp
   have bq:=Xa (Xcc bp)
   obtain ⟨tb,br⟩:∃tb,Xu (Xn m k)=tb:=⟨_,rfl⟩
   have cj:=Xa br
   rw[br] at bq
   obtain ⟨LX,ck⟩:∃LX,(Xn m k).length=LX:=⟨_,rfl⟩
   obtain ⟨Z,hO⟩:∃Z,(Qu m k).length=Z:=⟨_,rfl⟩
   have bs:=Xa hO
   rw[ck] at C bq ci
   rw[hO] at f ch|-
   clear s bp br ck hO
   go_wp2_with fail
   refine bq.out.mono ?_
   rintro e w3 ⟨rfl,L⟩
   have z:=Xa (f.out.keep (.of_below L) (f.out.se.below L) f.out.fud)
   have cl:=Xa (ci.out.below L)
   have cz:=(Xc L (X9 C)).trans C
   have z3:=L.size
   clear L
   cases tb
   ·have bt:Hid (Qu m (k+1)=Qu m k):=X2y (by rw[J.out];exact hlt) cj.out
    go_wp2_with fail
    go_roundw
    case rel=>exact ⟨k+1,bd,by omega,by go_num,by rw[bt.out];exact z.out⟩
    case measure=>simp[intOf];omega
   ·have bt:Hid (Qu m (k+1)=Qu m k++ [Xn m k]):=Xz2 (by rw[J.out];exact hlt) cj.out
    have D:=z.out.lo.row
    rw[bs.out] at D
    go_wp2_with (at_builtin;refine wpList_append_own_at _ rfl _ _ 28 rfl W2.heap.size 25 i0 (.slice none 0 0) 1 24 Tryz.underlying28 dl dm dp dq rfl (by decide) _ Z bd rfl (D.alloc _) ⟨w3.heap.size,0,none⟩ 1 1 [.slice ax LX cx] rfl rfl ?c1 ?c2 ?c3 ?c4 ?c5 ?_)
    case c1=>exact cell_one_new _ _ _
    case c2=>intro u hu;simp at hu;subst hu;rfl
    case c3=>unfold maxLen;omega
    case c4=>omega
    case c5=>simp;omega
    intro v6 w6 t cm _ bg
    have be:Below w3.heap.size w3 (w3.alloc (.cells #[.slice ax LX cx] 25)):=(Below.refl _ _).alloc (Nat.le_refl _) _
    have bh:=z.out.keep (.of_below be) (z.out.se.below be) z.out.fud
    rw[<-bs.out] at t
    have bi:=Xa (bh.app (xs5:= [.slice ax LX cx]) (m5:= [Xn m k]) rfl (Xoe (cl.out.below be)) t cm (by simpa using bg) (by rw[bs.out];simp;omega))
    obtain ⟨a6,c6,e6⟩:=Xg t
    obtain ⟨cn,cp⟩:∃cn,(Qu m k).length+1=cn:=⟨_,rfl⟩
    rw[cp] at e6
    subst e6
    rw[<-bt.out] at bi
    clear t cm bh D be cp bg
    go_wp2_with fail
    go_roundw
    case rel=>exact ⟨k+1,_,by omega,by go_num,bi.out⟩
    case measure=>simp[intOf];omega
  ·obtain rfl:k=M:=by omega
   obtain ⟨_,_,q2,_,_⟩:=s.se.cells
   have y5:=s.but.cellE (show w.heap.size≠E by omega) da.out.c5
   have d5:=s.but.cellE cc dh
   have ds:Hid ((Qu m k).length<=100 *(d+2)):=by unfold Hid;omega
   have HT:Hid ((Qu m k).length≠0->Now R Yi (Zj q.c (Qu m k).length) q.fu (Qu m k)):=fun ht=>by have h1:=di.out m cg.out (by rw[J.out];exact ht);rw[J.out] at h1;exact h1
   have HF:Hid ((Qu m k).length=0->Now R (Xp (Xh fs d) (Xk x 1) ns Xl) q.c q.fu []):=fun ht=>dj.out m cg.out (by rw[J.out];exact ht)
   obtain ⟨Z,hO⟩:∃Z,(Qu m k).length=Z:=⟨_,rfl⟩
   rw[hO] at f HT HF ch|-
   clear s hO
   by_cases hz:Z=0
   ·subst hz
    have cq:=Xa (HF.out rfl)
    by_cases h0:q.c=0
    ·have cr:Hid (∀W,Below wr.heap.size wr W->Calls Tryz.prog 35 #[.pointer (some ⟨E,0,none⟩), .int .i64 V, .slice av LN cv] W (RunAns B E (100 *(d+1)) fv fs (Xh fs d V ns q.fu).c (Xh fs d V ns q.fu).l (Xh fs d V ns q.fu).fu wr)):=fun W hb=>Ks HO.out ca.out.1 (by have:=f.out.se;rw[h0] at this;exact this) (b4.out.but f.out.but) f.out.fud hb
     obtain ⟨r1,bu⟩:∃r1,Xh fs d V ns q.fu=r1:=⟨_,rfl⟩
     have cs:Hid (∀m5:List (List VN),(r1.c=0->m5=r1.l)->Now R Yi (Zj r1.c m5.length) r1.fu m5):=fun m5 h5=>X1c cq.out h0 (by rw[ca.out.2];exact bu) h5
     rw[bu] at cr
     have ct:=Xa (cr.out wr (Below.refl _ _))
     clear bu h0
     go_wp2_with fail
     refine ct.out.mono ?_
     rintro e w5 ⟨fm,xs5,m5,rfl,Y,P,bv,cu,dt⟩
     have S:=Xa (cs.out m5 cu)
     have du:=Xa Y
     have dv:=Xa (f.out.but.trans P)
     have cw:=Xa bv
     have cy:Hid (m5.length<=100 *(d+2)):=by unfold Hid;omega
     obtain ⟨a5,c5,rfl⟩:=bv.slice
     obtain ⟨M5,bj⟩:∃M5,m5.length=M5:=⟨_,rfl⟩
     rw[bj] at S cw|-
     clear Y P bv cu dt bj
     go_wp2_with fail
     refine (Zr a5 M5 c5 du.out).mono ?_
     rintro e w6 ⟨rfl,T,F⟩
     have HA:=Xa (Qx (M:=100 *(d+2)) (e:= .returned (.slice a5 M5 c5)) rfl S.out T bk.out (dv.out.trans F) (cw.out.keep F) (by have:=bc.out;omega) HE.out cy.out)
     clear T F
     go_wp2_with fail
     go_ret
     exact HA.out
    ·have S:Hid (Now R Yi q.c q.fu []):=cq.out.dead h0 _ _
     have dw:=Xa (Xpj (V:Int) av LN cv f.out.se h0)
     have dx:Hid (Zj q.c 0=q.c):=Xbh h0
     have dy:Hid (LR E W2.heap.size wr (.slice none 0 0) [] []):=LR.nil (by have:=bc.out;omega)
     clear h0
     go_wp2_with fail
     refine dw.out.mono ?_
     rintro e w5 ⟨rfl,rfl⟩
     go_wp2_with fail
     refine (Zr none 0 0 f.out.se).mono ?_
     rintro e w6 ⟨rfl,T,F⟩
     rw[dx.out] at T
     have HA:=Xa (Qx (M:=100 *(d+2)) (e:= .returned (.slice none 0 0)) rfl S.out T bk.out (f.out.but.trans F) (dy.out.keep F) (by have:=bc.out;omega) HE.out (by simp))
     clear T F
     go_wp2_with fail
     go_ret
     exact HA.out
   ·have S:=Xa (HT.out hz)
    have fn:¬((Z:Int)=0):=by omega
    clear hz
    go_wp2_with fail
    refine (Zr ao Z co f.out.se).mono ?_
    rintro e w5 ⟨rfl,Y,P⟩
    have HA:=Xa (Qx (M:=100 *(d+2)) (e:= .returned (.slice ao Z co)) rfl S.out Y bk.out (f.out.but.trans P) (f.out.lo.keep P) (by have:=bc.out;omega) HE.out ds.out)
    clear Y P
    go_wp2_with fail
    go_ret
    exact HA.out


structure Side (E:Nat) (W2:World) (bv:Value) (bxs:List Value) (m5:List (List VN)) (o:Value) (wr:World):Prop where
 row:LR E W2.heap.size wr bv bxs m5
 apart:bv.ownBlock=none\/bv.ownBlock≠o.ownBlock
theorem Side.keep {E:Nat} {W2 wr w':World} {bv o:Value} {bxs:List Value} {m5:List (List VN)} (h:Side E W2 bv bxs m5 o wr) (hb:ButE E wr w'):Side E W2 bv bxs m5 o w':=⟨h.row.keep hb,h.apart⟩
theorem Side.app {E:Nat} {W2 w5 w6:World} {bv o v':Value} {bxs oxs:List Value} {m5 out:List (List VN)} (h:Side E W2 bv bxs m5 o w5) (lo:LR E W2.heap.size w5 o oxs out) (hg:w5.grownBy w6 o.ownBlock) (hat:v'.ownBlock=o.ownBlock\/v'.ownBlock=some w5.heap.size):Side E W2 bv bxs m5 v' w6:=by
 refine ⟨h.row.keepX (Xfg lo.row lo.lo hg) h.apart, ?_⟩
 rcases h.apart with e|e
 ·exact .inl e
 ·rcases hat with e2|e2
  ·exact .inr (by rw[e2];exact e)
  ·cases e3:bv.ownBlock with
   |none=>exact .inl rfl
   |some x=>exact .inr (by rw[e2];intro b;cases b;have:=(h.row.row.lt _ e3).2;omega)
theorem Side.new {E d fu:Nat} {B:Nat} {fv av o:Value} {fs:List FN} {W2 wr w5:World} {axs oxs bxs:List Value} {m out m5:List (List VN)} {c:Int} {bv:Value} (h:Loop B E fv fs d W2 av axs m c fu o oxs out wr) (hl:LR E wr.heap.size w5 bv bxs m5) (hE:E<W2.heap.size):Side E W2 bv bxs m5 o w5:=by
 refine ⟨hl.low h.but.size hE, ?_⟩
 cases e3:bv.ownBlock with
 |none=>exact .inl rfl
 | some x =>
  refine .inr (fun e4=> ?_)
  have b:=(hl.row.lt _ e3).1
  have f:=(h.lo.row.lt _ e4.symm).2
  omega
def Xyh (B E M:Nat) (fv:Value) (fs:List FN) (R:Int×Xs) (w:World) (e:Ending) (w':World):Prop:=
 ∃sv xs m c fu,e= .returned sv/\SE B E fv fs fu c w'/\ButE E w w'/\LR E w.heap.size w' sv xs m/\Now R Yi c fu m/\m.length<=M
theorem Xyi (a b:Value) (w:World):(callFunc 130 #[a,b]).run Tryz.prog w= .ok (.enter 130 #[a,b]) w:=by kernel_rfl
theorem Xvb (a b:Value) (w:World):(callFunc 131 #[a,b]).run Tryz.prog w= .ok (.enter 131 #[a,b]) w:=by kernel_rfl
theorem Xrw (a b:Value) (w:World):(callFunc 132 #[a,b]).run Tryz.prog w= .ok (.enter 132 #[a,b]) w:=by kernel_rfl
theorem X3p (a:Int):decide (a=0)=(a==0):=by cases h:decide (a=0)<;>simp_all
theorem X3q (a:Int):(!decide (a=0))=(a !=0):=by cases h:decide (a=0)<;>simp_all
theorem Made1.ahead {E:Nat} {r:Int×List VN} {w W w':World} {e:Ending} (h:Made1 E r W e w') (hb:Below w.heap.size w W):Made1 E r w e w':=by
 obtain ⟨u,c,d,f,b⟩:=h
 exact ⟨u,c,d,f,hb.trans (b.mono hb.size)⟩
end Go.Proofs.YtdjddneidbddpaaGreatDoor
