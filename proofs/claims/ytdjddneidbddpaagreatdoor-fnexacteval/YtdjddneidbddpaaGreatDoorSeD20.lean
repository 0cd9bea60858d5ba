import Derived.Test.YtdjddneidbddpaaGreatDoorSeN
import Derived.Test.YtdjddneidbddpaaGreatDoorSeF
import Derived.Test.YtdjddneidbddpaaGreatDoorSPlsL
import Derived.Test.YtdjddneidbddpaaGreatDoorSPlsN
import Derived.Test.YtdjddneidbddpaaGreatDoorSSort
import Derived.Test.YtdjddneidbddpaaGreatDoorEvY
import Derived.Test.YtdjddneidbddpaaGreatDoorSeM
import Derived.Test.YtdjddneidbddpaaGreatDoorPsZ
import Derived.Test.YtdjddneidbddpaaGreatDoorByP
namespace Go.Proofs.YtdjddneidbddpaaGreatDoor
set_option linter.unusedSectionVars false
set_option maxHeartbeats 12800000
open Go.RowKit
set_option linter.unusedSimpArgs false
set_option linter.unusedVariables false
theorem NR.sized {E:Nat} {w:World} {v:Value} {vs:List VN} (h:NR E w v vs):1≤vs.length∧vs.length≤80:=(Xp h.ok).1
theorem NR.below {E:Nat} {w w':World} {v:Value} {vs:List VN} (h:NR E w v vs) (hb:Below w.heap.size w w'):NR E w' v vs:=h.keep (Below.keepN hb)
theorem NR.but {E:Nat} {w w':World} {v:Value} {vs:List VN} (h:NR E w v vs) (hb:ButE E w w'):NR E w' v vs:=h.keep hb.keepN
theorem Q4 {vs:List VN} (ok:okB vs=true):1≤(Xd vs).kind∧(Xd vs).kind≤6:=by
 have:=J3 ok
 omega
def Made1 (E:Nat) (r:Int×List VN) (w:World) (e:Ending) (w':World):Prop:=
 ∃u,e= .returned (.tuple #[u, .int .i64 r.1])∧(∃a n c,u= .slice a n c)∧(r.1=0→NR E w' u r.2)∧Below w.heap.size w w'
theorem Xfa {E base:Nat} {w w':World} {c:Int} {ns:List VN} {e:Ending} {r:Value} {KV IV:Nat→Value} (he:e= .returned (.tuple #[r, .int .i64 c])) (hb:w.heap.size≤base) (hn:Nest base w' r ns KV IV) (hbl:Below w.heap.size w w') (hE:E<w.heap.size) (ok:c=0→okB ns=true):Made1 E (c,ns) w e w':=by
 obtain ⟨a,k,er⟩:=Xj hn.row
 exact ⟨r,he,⟨a,_,k,er⟩,fun hc=>NR.made hn (ok hc) (by omega),hbl⟩
theorem Xwf {E:Nat} {u v:Value} {us vs:List VN} {w:World} (hu:NR E w u us) (hv:NR E w v vs) (hE:E<w.heap.size):Calls Tryz.prog 131 #[u,v] w (Made1 E (Qn us vs,Zu us vs) w):=by
 have key:Calls Tryz.prog 131 #[u,v] w fun e w'=>∃r base KV IV,e= .returned (.tuple #[r, .int .i64 (Qn us vs)])∧w.heap.size≤base∧Nest base w' r (Zu us vs) KV IV∧Below w.heap.size w w':=by
  by_cases h5:(Xd us).kind=5∧(Xd vs).kind=5
  ·exact Xq3 w.heap.size _ _ us vs w hu.nodes hv.nodes (Nat.le_refl _) hu.ok hv.ok h5.1 h5.2
  ·by_cases h6:(Xd us).kind=6∧(Xd vs).kind=6
   ·exact Xui w.heap.size _ _ us vs w hu.nodes hv.nodes (Nat.le_refl _) hu.ok hv.ok h6.1 h6.2
   ·exact Xr4 w.heap.size _ _ us vs w hu.nodes hv.nodes (Nat.le_refl _) hu.ok hv.ok (by omega)
 refine key.mono ?_
 rintro e w' ⟨r,base,KV,IV,he,hb,hn,hbl⟩
 exact Xfa he hb hn hbl hE Xkd
theorem Xt0 {E:Nat} {u v:Value} {us vs:List VN} {w:World} (hu:NR E w u us) (hv:NR E w v vs) (hE:E<w.heap.size):Calls Tryz.prog 132 #[u,v] w (Made1 E (V6 us vs,Kn us vs) w):=by
 have key:Calls Tryz.prog 132 #[u,v] w fun e w'=>∃r base KV IV,e= .returned (.tuple #[r, .int .i64 (V6 us vs)])∧w.heap.size≤base∧Nest base w' r (Kn us vs) KV IV∧Below w.heap.size w w':=by
  by_cases h5:(Xd us).kind=5∧(Xd vs).kind=5
  ·exact Xp8 w.heap.size _ _ us vs w hu.nodes hv.nodes (Nat.le_refl _) hu.ok hv.ok h5.1 h5.2
  ·exact Xp5 w.heap.size _ _ us vs w hu.nodes hv.nodes (Nat.le_refl _) hu.ok hv.ok h5
 refine key.mono ?_
 rintro e w' ⟨r,base,KV,IV,he,hb,hn,hbl⟩
 exact Xfa he hb hn hbl hE Xok
theorem Xzt {E:Nat} {v:Value} {vs:List VN} {w:World} (hv:NR E w v vs) (hE:E<w.heap.size):Calls Tryz.prog 78 #[v] w (Made1 E (Xa9 vs,G9 vs) w):=by
 refine (Xop w.heap.size v vs w hv.nodes (Nat.le_refl _) hv.ok).mono ?_
 rintro e w' ⟨r,base,KV,IV,he,hb,hn,hbl⟩
 have e1:Xa9 vs=Xiy (Zn (Xd vs)):=by unfold Xa9;rw[if_pos hv.ok]
 have e2:G9 vs=Xm0 (Zn (Xd vs)):=by unfold G9;rw[if_pos hv.ok]
 rw[←e1] at he
 rw[←e2] at hn
 exact Xfa he hb hn hbl hE (Xw6 hv.ok)
theorem Wu {E:Nat} {u v:Value} {us vs:List VN} {w:World} (hu:NR E w u us) (hv:NR E w v vs):Calls Tryz.prog 130 #[u,v] w fun e w'=>e= .returned (.int .i64 (Yt us vs))∧Below w.heap.size w w':=by
 rw[Xan hu.ok hv.ok]
 exact Xey w.heap.size u v us vs w ⟨hu.nodes,hv.nodes,(Xp hu.ok).2.1,(Xp hv.ok).2.1⟩ (Nat.le_refl _) hu.sized hv.sized
def Gg (E:Nat) (ns:List VN) (w:World) (e:Ending) (w':World):Prop:=∃u,e= .returned u∧(∃a c,u= .slice a ns.length c)∧NR E w' u ns∧Below w.heap.size w w'
theorem Xao (E:Nat) (b:Bool) (w:World) (hE:E<w.heap.size):Calls Tryz.prog 80 #[.bool b] w (Gg E (Qd b) w):=by
 refine (Xxm b w).mono ?_
 rintro e w' ⟨he,hn,hb⟩
 exact ⟨_,he,⟨_,_,rfl⟩,NR.made hn (Xgk b) hE,hb⟩
theorem Xap (E:Nat) (w:World) (hE:E<w.heap.size):Calls Tryz.prog 55 #[] w (Gg E Jj w):=by
 refine (Xxl w).mono ?_
 rintro e w' ⟨he,hn,hb⟩
 exact ⟨_,he,⟨_,_,rfl⟩,NR.made hn Xbq hE,hb⟩
theorem Xcp {E:Nat} {v:Value} {vs:List VN} {w:World} (hv:NR E w v vs):Calls Tryz.prog 77 #[v] w fun e w'=>e= .returned (.bool (Xx vs))∧Below w.heap.size w w':=Xvw w.heap.size v vs w hv.nodes (Nat.le_refl _) hv.ok
theorem Uz {E base:Nat} {v:Value} {ns:List VN} {w:World} {KV IV:Nat→Value} (hn:Nest base w v ns KV IV) (hE:E<base) (hl:ns.length≤1759218604416) (hf:∀i,i<ns.length→Fits (Xb ns i)):Calls Tryz.prog 74 #[v] w (Made1 E (Yu ns) w):=by
 have hN:=hn.nodes hl hf
 unfold Yu
 cases ok:okB ns
 ·rw[if_neg (by simp)]
  refine (Gq w.heap.size v ns w hN (Nat.le_refl _) ok).mono ?_
  rintro e w' ⟨he,hb⟩
  exact ⟨_,he,⟨_,_,_,rfl⟩,fun h=>absurd h (by decide),hb⟩
 ·rw[if_pos rfl]
  refine (Vs w.heap.size v ns w hN (Nat.le_refl _) ok).mono ?_
  rintro e w' ⟨he,hb⟩
  obtain ⟨a,c,ev⟩:=Xj hn.row
  exact ⟨_,he,⟨a,_,c,ev⟩,fun _=>NR.made (hn.below hb) ok hE,hb⟩
theorem Xaq {E base B:Nat} {w:World} {kv sv:Value} {xs:List Value} {keys:List ByteArray} {l:List (List VN)} (kind:Int) (h1:1≤kind) (h6:kind≤6) (hl:LR E base w sv xs l) (hm:l.length≤200) (hk:StrsAt B w kv keys) (hB:B≤w.heap.size) (hkn:keys.length≤200) (hks:∀i,i<keys.length→(Xh keys i).size≤140737488355328):
  Calls Tryz.prog 75 #[.int .i64 kind,kv,sv] w fun e w'=>∃r KV IV,e= .returned r∧Nest w.heap.size w' r (Yn kind keys (Xl l) l.length) KV IV∧Below w.heap.size w w'∧(Yn kind keys (Xl l) l.length).length≤16001∧∀i,i<(Yn kind keys (Xl l) l.length).length→Fits (Xb (Yn kind keys (Xl l) l.length) i):=by
 have hok:=hl.oks
 have hm2:=Gh (L:=Xl l) (m:=l.length) hm hok (fun i hi=>Ul (hok i hi)) (kind:=kind) h1 h6 (keys:=keys) hkn hks
 have hle:=Vk hok l.length (Nat.le_refl _)
 have hle2:l.length *80≤16000:=by omega
 refine (Xbl w.heap.size kind kv sv keys l.length (Xl l) w (hk.wide hB) (hl.rows (by omega)) (Nat.le_refl _) (by omega) (by omega) (by omega) (Xdl hok)).mono ?_
 rintro e w' ⟨r,KV,IV,he,hn,hb⟩
 exact ⟨r,KV,IV,he,hn,hb,hm2.1,fun i hi=>(hm2.2 i hi).1⟩
theorem Xt1 {E:Nat} {v:Value} {ns:List VN} {w:World} (hv:NR E w v ns) (hE:E<w.heap.size):Calls Tryz.prog 72 #[v] w fun e w'=>∃sv xs,e= .returned sv∧LR E w.heap.size w' sv xs (Ys ns)∧Below w.heap.size w w':=by
 refine (Ku w.heap.size v ns w hv.nodes (Nat.le_refl _) hv.ok).mono ?_
 rintro e w' ⟨r,rs,KV,IV,lo,he,hr,hb⟩
 have el:(Ys ns).length=(Xe ns).length:=by simp[Ys]
 refine ⟨r,_,he,⟨by rw[el];exact hr.row,hE,fun j hj=> ?_⟩,hb⟩
 rw[el] at hj
 have e1:((List.range (Xe ns).length).map rs).getD j undef=rs j:=by
  rw[List.getD_eq_getElem?_getD,List.getElem?_map,List.getElem?_range hj];rfl
 have e2:Xl (Ys ns) j=PL ns j:=by
  unfold Xl Ys
  rw[List.getD_eq_getElem?_getD,List.getElem?_map,List.getElem?_range hj]
  rfl
 rw[e1,e2]
 exact NR.made (hr.nest j hj) (Xgl hv.ok hj) (Nat.lt_of_lt_of_le hE (hr.low j (by omega)))

set_option maxRecDepth 100000 in
theorem Xps {B E:Nat} {fv:Value} {fs:List FN} {fu:Nat} {c:Int} {w:World} (n:Int) (a:Option Addr) (l cp:Nat) (h:SE B E fv fs fu c w) (hc:c≠0):
  Calls Tryz.prog 35 #[.pointer (some ⟨E,0,none⟩), .int .i64 n, .slice a l cp] w fun e w'=>e= .returned (.slice none 0 0)∧w'=w:=by
 obtain ⟨_,_,c2,_,f2⟩:=h.cells
 clear h
 have hc2:(c !=0)=true:=by simpa using hc
 have hc3:(c==0)=false:=by simpa using hc
 clear hc
 go_enter Tryz.func35,Tryz.ntmps35
 go_wp2_with fail
 go_ret
 exact ⟨rfl,rfl⟩
set_option maxRecDepth 100000 in
theorem Xpt {B E M:Nat} {fv:Value} {fs:List FN} {w:World} {l:List (List VN)} (n:Int) (a:Option Addr) (k cp:Nat) (h:SE B E fv fs 0 0 w):
  Calls Tryz.prog 35 #[.pointer (some ⟨E,0,none⟩), .int .i64 n, .slice a k cp] w (RunAns B E M fv fs 4 l 0 w):=by
 have HSET:=Xa (h.set 4)
 have HL:Hid (E<w.heap.size):=h.lt
 obtain ⟨_,c1,c2,_,f2⟩:=h.cells
 have c1':w.cell? ⟨E,1,none⟩=some (.int .i64 0):=c1
 clear h c1
 go_enter Tryz.func35,Tryz.ntmps35
 go_wp2_with fail
 go_ret
 exact ⟨_,_,[],rfl,HSET.out.1,HSET.out.2,LR.nil HL.out,fun e=>absurd e (by decide),Nat.zero_le _⟩
structure Pre (B E:Nat) (fv:Value) (fs:List FN) (j:Nat) (x:FN) (n:Nat) (w W1 W2 W3:World) (b0 o0 cap:Nat) (aC:Option Addr) (cC:Nat) (aK:Option Addr) (cK:Nat) (aI:Option Addr) (cI:Nat):Prop where
 hfv:fv= .slice (some ⟨b0,o0,none⟩) fs.length cap
 q0:w.cell? ⟨E,0,none⟩=some (.slice (some ⟨b0,o0,none⟩) fs.length cap)
 q1:w.cell? ⟨E,1,none⟩=some (.int .i64 ((j:Int)+1))
 q2:w.cell? ⟨E,2,none⟩=some (.int .i64 0)
 z1:w.frozen? ⟨E,1,none⟩=false
 e1:w.setCell ⟨E,1,none⟩ (.int .i64 (j:Int))=W1
 p0:W1.cell? ⟨E,0,none⟩=some (.slice (some ⟨b0,o0,none⟩) fs.length cap)
 s0:W1.cell? ⟨b0,o0+n *6,none⟩=some (.int .i64 x.kind)
 s1:W1.cell? ⟨b0,o0+n *6+1,none⟩=some (.string x.name)
 s2:W1.cell? ⟨b0,o0+n *6+2,none⟩=some (.int .i64 x.place)
 s3:W1.cell? ⟨b0,o0+n *6+3,none⟩=some (.slice aC x.cst.length cC)
 s4:W1.cell? ⟨b0,o0+n *6+4,none⟩=some (.slice aK x.names.length cK)
 s5:W1.cell? ⟨b0,o0+n *6+5,none⟩=some (.slice aI x.kids.length cI)
 e2:W1.alloc (.cells #[.int .i64 x.kind, .string x.name, .int .i64 x.place, .slice aC x.cst.length cC, .slice aK x.names.length cK, .slice aI x.kids.length cI] 84)=W2
 e3:W2.alloc (.cells #[] 25)=W3
 g1:W1.heap.size=w.heap.size
 g2:W2.heap.size=w.heap.size+1
 g3:W3.heap.size=w.heap.size+2
 se:SE B E fv fs j 0 W3
 but:ButE E w W2
 bu3:Below W2.heap.size W2 W3
 box:NodeBox B W2 w.heap.size x (.slice aC x.cst.length cC) (.slice aK x.names.length cK) (.slice aI x.kids.length cI)
 hE:E<w.heap.size
 hB:B≤E
theorem Qo {B E j n:Nat} {fv:Value} {fs:List FN} {x:FN} {w:World} (h:SE B E fv fs (j+1) 0 w) (hn:n<fs.length) (hx:Xr fs n=x):∃W1 W2 W3 b0 o0 cap aC cC aK cK aI cI,Pre B E fv fs j x n w W1 W2 W3 b0 o0 cap aC cC aK cK aI cI:=by
 have hE:=h.lt
 have hB:=h.hBE
 obtain ⟨hfl,a,cap,e,hcell⟩:=h.nodes
 obtain ⟨b0,o0,ea,hb0,hc⟩:=hcell (by omega)
 subst ea
 obtain ⟨kc,kn,ki,hnode⟩:=hc n hn
 rw[hx] at hnode
 obtain ⟨c0,c1,c2,f1,f2⟩:=h.cells
 obtain ⟨W1,hW1⟩:∃W1,w.setCell ⟨E,1,none⟩ (.int .i64 (j:Int))=W1:=⟨_,rfl⟩
 have hset:=h.setFu j
 rw[hW1] at hset
 have hz1:W1.heap.size=w.heap.size:=by rw[←hW1];simp
 have hno:=hnode.below (hset.2.below hB (by omega)) hb0
 obtain ⟨_,aC,cC,eC,_⟩:=id hno.inn.cst
 obtain ⟨_,_,aK,cK,eK,_⟩:=id hno.inn.names
 obtain ⟨_,_,aI,cI,eI,_⟩:=id hno.inn.kids
 subst eC eK eI
 obtain ⟨W2,hW2⟩:∃W2,W1.alloc (.cells #[.int .i64 x.kind, .string x.name, .int .i64 x.place, .slice aC x.cst.length cC, .slice aK x.names.length cK, .slice aI x.kids.length cI] 84)=W2:=⟨_,rfl⟩
 obtain ⟨W3,hW3⟩:∃W3,W2.alloc (.cells #[] 25)=W3:=⟨_,rfl⟩
 have hz2:W2.heap.size=w.heap.size+1:=by rw[←hW2,←hz1];simp
 have hz3:W3.heap.size=w.heap.size+2:=by rw[←hW3];simp[hz2]
 have b12:Below W1.heap.size W1 W2:=by rw[←hW2];exact (Below.refl _ _).alloc (Nat.le_refl _) _
 have b23:Below W2.heap.size W2 W3:=by rw[←hW3];exact (Below.refl _ _).alloc (Nat.le_refl _) _
 have hblk:W2.heap[w.heap.size]? =some (.cells #[.int .i64 x.kind, .string x.name, .int .i64 x.place, .slice aC x.cst.length cC, .slice aK x.names.length cK, .slice aI x.kids.length cI] 84 (0,0)):=by rw[←hW2,←hz1];exact heap_alloc_new W1 _
 have hse2:=hset.1.below b12
 have hse3:=hse2.below b23
 exact ⟨W1,W2,W3,b0,o0,cap,aC,cC,aK,cK,aI,cI,⟨e,by rw[c0,e],by rw[c1];rfl,c2,f1,hW1,by have:=hset.1.cells.1;rw[this,e],hno.c0,hno.c1,hno.c2,hno.c3,hno.c4,hno.c5,hW2,hW3,hz1,hz2,hz3,hse3,hset.2.trans (.of_below b12),b23,
  ⟨Xg hblk 0,Xg hblk 1,Xg hblk 2,Xg hblk 3,Xg hblk 4,Xg hblk 5,hno.inn.below (b12.mono (by omega))⟩,hE,hB⟩⟩
theorem Q2 {B E M:Nat} {fv:Value} {fs:List FN} {R:Int×Xt} {c:Int} {fu:Nat} {m:List (List VN)} {w w' W2:World} {e:Ending} {sv:Value} {xs:List Value} {base:Nat} (he:e= .returned sv) (hn:Now R Xy c fu m) (hs:SE B E fv fs fu c w') (h1:ButE E w W2) (h2:ButE E W2 w') (hl:LR E base w' sv xs m) (hb:w.heap.size≤base) (hE:E<w.heap.size) (hm:m.length≤M):RunAns B E M fv fs R.1 R.2.2 R.2.1 w e w':=by
 obtain ⟨f1,f2,f3⟩:=hn.fin
 subst f1 f2
 exact ⟨sv,xs,m,he,hs,h1.trans h2,hl.low hb hE,f3,hm⟩
theorem Vl {B E M:Nat} {fv:Value} {fs:List FN} {R:Int×Xt} {c:Int} {fu:Nat} {m:List (List VN)} {w w' W2 W3:World} {e:Ending} (ha:Q3 B E fv fs c m fu W3 e w') (hn:Now R Xy c fu m) (h1:ButE E w W2) (h2:ButE E W2 W3) (hE:E<w.heap.size) (hm:m.length≤M):RunAns B E M fv fs R.1 R.2.2 R.2.1 w e w':=by
 obtain ⟨sv,xs,he,hs,hb,hl⟩:=ha
 exact Q2 he hn hs h1 (h2.trans hb) hl (Nat.le_trans h1.size h2.size) hE hm
theorem X1w (a b c:Value) (w:World):(callFunc 35 #[a,b,c]).run Tryz.prog w= .ok (.enter 35 #[a,b,c]) w:=by kernel_rfl

theorem Xlx {E base m:Nat} {w:World} {v:Value} {rs:Nat→Value} {KV IV:Nat→Nat→Value} {lo:Nat→Nat} {l:List (List VN)} (h:Rows2 base w v m (Xl l) rs KV IV lo) (hm:l.length=m) (hE:E<base) (hok:∀j,j<m→okB (Xl l j)=true):LR E base w v ((List.range m).map rs) l:=by
 subst hm
 refine ⟨h.row,hE,fun j hj=> ?_⟩
 have e1:((List.range l.length).map rs).getD j undef=rs j:=by
  rw[List.getD_eq_getElem?_getD,List.getElem?_map,List.getElem?_range hj];rfl
 rw[e1]
 exact NR.made (h.nest j hj) (hok j hj) (Nat.lt_of_lt_of_le hE (h.low j (by omega)))
theorem StrsAt.nil (B:Nat) (w:World):StrsAt B w (.slice none 0 0) []:=⟨by simp,fun i hi=>absurd hi (by simp),none,0,rfl,fun h=>absurd h (by simp)⟩
set_option maxRecDepth 100000 in
theorem Xyq {E:Nat} {v:Value} {ns:List VN} {w:World} (hv:NR E w v ns) (hE:E<w.heap.size):Calls Tryz.prog 79 #[v] w (Made1 E (Vf ns) w):=by
 obtain ⟨p1a,p1b⟩:=hv.sized
 have hok:=hv.ok
 have HOK:=Xa hok
 have hnd:=(Xp hok).2.1 (ns.length-1) (by omega)
 have HRK:=Xa (J3 hok)
 obtain ⟨_,b0,o0,c0,rfl,hb0,hc⟩:∃(_:ns.length≤1759218604416) (b o c:Nat),v= .slice (some ⟨b,o,none⟩) ns.length c∧b<w.heap.size∧∃ka ki,NodeAt w.heap.size w b (o+(ns.length-1) *5) (Xb ns (ns.length-1)) ka ki:=by
  obtain ⟨hl,a,c,e,hx⟩:=hv.nodes
  obtain ⟨b,o,ea,hb,hcc⟩:=hx (by omega)
  exact ⟨hl,b,o,c,by rw[e,ea],hb,hcc _ (by omega)⟩
 obtain ⟨ka,ki,hn⟩:=hc
 obtain ⟨hks1,hks2,aK,cK,rfl,hkc⟩:=hn.inn.keys
 obtain ⟨_,_,aI,cI,rfl,_⟩:=hn.inn.kids
 have HKC:=Xa hkc
 have d0:=hn.c0
 have d1:=hn.c1
 have d2:=hn.c2
 have d3:=hn.c3
 have d4:=hn.c4
 have hkk:(Xb ns (ns.length-1)).kids.length≤80:=by have:=(Xp hok).2.2.2 (ns.length-1) (by omega);omega
 have hk6:(Xd ns).kind=6→(Xb ns (ns.length-1)).keys.length=(Xb ns (ns.length-1)).kids.length∧∀i,i<(Xb ns (ns.length-1)).keys.length→Z7 (Xh (Xb ns (ns.length-1)).keys i)=true:=fun k=>⟨(Y7 hok k).1,fun i hi=>(Xs2 (Y7 hok k).2 hi).1⟩
 have HK6:=Xa hk6
 have HKL:=Xa (fun a=>Xh2 hok a)
 have HRI:Hid ((Xe ns).length=(Xb ns (ns.length-1)).kids.length∧(Xd ns).keys=(Xb ns (ns.length-1)).keys):=⟨rfl,rfl⟩
 have HKN:Hid (∀j,(Xd ns).kind=5→j<(Xe ns).length→Xl (V0 ns) j=Xu 3 (j:Int) ByteArray.empty):=fun j a b=>Xpo a b
 have HKW:Hid (∀j,(Xd ns).kind=6→j<(Xd ns).keys.length→Xl (V0 ns) j=Xu 4 0 (Xh (Xd ns).keys j)):=fun j a b=>Xlv a b
 have HR:Hid (Vf ns=if (Xd ns).kind=5∨(Xd ns).kind=6 then Yu (Zp (V0 ns)) else (2,[])):=rfl
 obtain ⟨r,hr⟩:∃r,Vf ns=r:=⟨_,rfl⟩
 rw[hr] at HR⊢
 obtain ⟨kl,hkl⟩:∃kl,V0 ns=kl:=⟨_,rfl⟩
 rw[hkl] at HR HKL HKN HKW
 obtain ⟨x,hx⟩:∃x,Xb ns (ns.length-1)=x:=⟨_,rfl⟩
 have hx':Xd ns=x:=hx
 rw[hx] at d0 d1 d2 d3 d4 hkk HKC HK6 HRI hks2
 rw[hx'] at HR HKL HKN HKW HK6 HRK HRI
 obtain ⟨KI,hKI⟩:∃KI,x.kids.length=KI:=⟨_,rfl⟩
 obtain ⟨KS,hKS⟩:∃KS,x.keys.length=KS:=⟨_,rfl⟩
 have HKS:=Xa hKS
 have HKI:=Xa hKI
 rw[hKI] at d4 hkk HK6 HRI
 rw[hKS] at d3 HK6 HKC HKW hks2
 obtain ⟨kx,hkx⟩:∃k,x.kind=k:=⟨_,rfl⟩
 rw[hkx] at d0 HR HKL HKN HKW HK6 HRK
 obtain ⟨i0,hi0,hz0,hs0,hy0⟩:=info_parts Qu
 obtain ⟨NL,hNL⟩:∃NL,ns.length=NL:=⟨_,rfl⟩
 rw[hNL] at p1a p1b d0 d1 d2 d3 d4⊢
 have z1:((NL:Int)-1).toNat=NL-1:=by omega
 obtain ⟨W1,hW1⟩:∃W1,w.alloc (.cells #[.int .i64 kx, .int .i64 x.n, .string x.s, .slice aK KS cK, .slice aI KI cI] 75)=W1:=⟨_,rfl⟩
 obtain ⟨W2,hW2⟩:∃W2,W1.alloc (.cells #[] 25)=W2:=⟨_,rfl⟩
 have hz1:W1.heap.size=w.heap.size+1:=by rw[←hW1];simp
 have hz2:W2.heap.size=w.heap.size+2:=by rw[←hW2];simp[hz1]
 have HB1:Hid (Below w.heap.size w W1):=by rw[Hid,←hW1];exact (Below.refl _ _).alloc (Nat.le_refl _) _
 have HB12:Hid (Below (w.heap.size+1) W1 W2):=by rw[Hid,←hW2];exact (Below.refl _ _).alloc (by omega) _
 have HB2:Hid (Below w.heap.size w W2):=HB1.out.trans (HB12.out.mono (by omega))
 have hblk:W1.heap[w.heap.size]? =some (.cells #[.int .i64 kx, .int .i64 x.n, .string x.s, .slice aK KS cK, .slice aI KI cI] 75 (0,0)):=by rw[←hW1];exact heap_alloc_new w _
 have HBX:Hid (∀Y,Below (w.heap.size+1) W1 Y→Y.cell? ⟨w.heap.size,0,none⟩=some (.int .i64 kx)∧Y.cell? ⟨w.heap.size,3,none⟩=some (.slice aK KS cK)∧Y.cell? ⟨w.heap.size,4,none⟩=some (.slice aI KI cI)):=fun Y hY=>⟨(Xc hY (by omega)).trans (Xg hblk 0),(Xc hY (by omega)).trans (Xg hblk 3),(Xc hY (by omega)).trans (Xg hblk 4)⟩
 have x0:=(HBX.out _ HB12.out).1
 have x3:=(HBX.out _ HB12.out).2.1
 have x4:=(HBX.out _ HB12.out).2.2
 have HR0:Hid (Rows2 (w.heap.size+1) W2 (.slice (some ⟨w.heap.size+1,0,none⟩) 0 0) 0 (Xl kl) (fun _=>undef) (fun _ _=>undef) (fun _ _=>undef) (fun _=>w.heap.size+1)):=by rw[Hid,←hW2,←hz1];exact Rows2.start (World.ownsRow_lit W1 #[] 0 (Nat.le_refl _) (by simp[maxLen]) rfl) (by simp) _
 have HEL:Hid (E<w.heap.size):=hE
 have HKB:Hid (∀(b o:Nat),aK=some ⟨b,o,none⟩→True):=fun _ _ _=>trivial
 clear hv hok hnd hn hx hx' hr hkl hKI hKS hkx hNL hblk hk6 hkc hE HKB
 by_cases k6:kx=6
 ·subst k6
  obtain ⟨e56,htx⟩:=HK6.out rfl
  have HTX:=Xa htx
  have HRR:Hid (r=Yu (Zp kl)):=by rw[Hid,HR.out,if_pos (.inr rfl)]
  have HLN:Hid (kl.length=KS):=by rw[Hid,HKL.out (.inr rfl),HRI.out.1,e56]
  subst e56
  clear htx
  go_enter Tryz.func79,Tryz.ntmps79
  go_wp2_with fail
  go_loopw [5,6] (fun o i wr=>∃(k:Nat) (rs:Nat→Value) (KV IV:Nat→Nat→Value) (lo:Nat→Nat),k≤KS∧i= .int .i64 k∧Rows2 (w.heap.size+1) wr o k (Xl kl) rs KV IV lo∧Below (w.heap.size+1) W1 wr) (fun _ i _=>KS-(intOf i).toNat)
  case atStart=>exact ⟨0,_,_,_,_,Nat.zero_le _,rfl,HR0.out,HB12.out⟩
  case round=>
   obtain ⟨k,rs,KV,IV,lo,hk,rfl,hrows,hbl⟩:=hrel
   have HRW:=Xa hrows
   have HBL:=Xa hbl
   have zs:=hbl.size
   obtain ⟨ao,co,eo⟩:=Xj hrows.row
   subst eo
   obtain ⟨y0,y3,y4⟩:=HBX.out wr hbl
   clear hrows
   by_cases hlt:k<KS
   ·obtain ⟨bk,ok,rfl,hbk,hck⟩:=HKC.out (by omega)
    have hcq:wr.cell? ⟨bk,ok+k,none⟩=some (.string (Xh x.keys k)):=(Xc hbl (by omega)).trans ((Xc HB1.out hbk).trans (hck k hlt))
    have HLF:Hid (Xu 4 0 (Xh x.keys k)=Xl kl k):=by rw[Hid,HKW.out k (by simp) hlt]
    obtain ⟨ky,hky⟩:∃ky,Xh x.keys k=ky:=⟨_,rfl⟩
    rw[hky] at hcq HLF
    clear hck hbl hky
    go_wp2_with fail
    refine (Xxn ky wr).mono ?_
    rintro e w3 ⟨rfl,hn3,hb3⟩
    rw[HLF.out] at hn3
    have HN3:=Xa hn3
    have HB3:=Xa hb3
    have z3:=hb3.size
    have HROW:=Xa (HRW.out.below hb3).row
    clear hn3 hb3
    go_wp2_with (at_builtin;refine wpList_append_own_at _ rfl _ _ 28 rfl (w.heap.size+1) 25 i0 (.slice none 0 0) 1 24 Tryz.underlying28 hi0 hz0 hs0 hy0 rfl (by decide) _ _ _ rfl (HROW.out.alloc _) ⟨w3.heap.size,0,none⟩ 1 1 [.slice (some ⟨wr.heap.size,0,none⟩) 1 1] rfl rfl ?c1 ?c2 ?c3 ?c4 ?c5 ?_)
    case c1=>exact cell_one_new _ _ _
    case c2=>intro u hu;simp at hu;subst hu;rfl
    case c3=>unfold maxLen;omega
    case c4=>omega
    case c5=>simp;omega
    intro v' w5 hown hgrow _ _
    have HR5:=Xa (HRW.out.snoc HB3.out HN3.out hown hgrow)
    have HB5:Hid (Below (w.heap.size+1) W1 w5):=((HBL.out.trans (HB3.out.mono (by omega))).alloc (by omega) _).grown hgrow (by simp;omega) (fun x hx=>(HROW.out.lt x hx).1)
    clear hown hgrow
    go_wp2_with fail
    go_roundw
    case rel=>exact ⟨k+1,_,_,_,_,by omega,by go_num,HR5.out,HB5.out⟩
    case measure=>simp[intOf];omega
   ·obtain rfl:k=KS:=by omega
    have HLR:Hid (LR E (w.heap.size+1) wr (.slice ao k co) ((List.range k).map rs) kl):=Xlx HRW.out HLN.out (by have:=HEL.out;omega) (fun j hj=>by rw[HKW.out j (by simp) hj];exact Xs8 (HTX.out j hj))
    have HMK:=Xa (Xaq (kind:=5) (kv:= .slice none 0 0) (keys:= []) (by decide) (by decide) HLR.out (by rw[HLN.out];omega) (StrsAt.nil 0 wr) (Nat.zero_le _) (by simp) (fun i hi=>absurd hi (by simp)))
    clear hbl
    go_wp2_with fail
    refine HMK.out.mono ?_
    rintro e w3 ⟨u,K,I,rfl,hn3,hb3,hl3,hf3⟩
    have HRT:=Xa (Uz (E:=E) hn3 (by have:=HEL.out;omega) (by omega) hf3)
    have HB3:=Xa (HBL.out.trans (hb3.mono (by omega)))
    have z3:=hb3.size
    obtain ⟨a3,c3,e3⟩:=Xj hn3.row
    obtain ⟨L3,hL3⟩:∃L3,(Yn 5 [] (Xl kl) kl.length).length=L3:=⟨_,rfl⟩
    have HQ:Hid (Yu (Yn 5 [] (Xl kl) kl.length)=r):=by rw[Hid,HRR.out];rfl
    rw[HQ.out] at HRT
    rw[hL3] at e3
    subst e3
    clear hn3 hb3 hl3 hf3 hL3
    go_wp2_with fail
    refine HRT.out.mono ?_
    rintro e w4 ⟨u4,rfl,⟨a4,l4,c4,rfl⟩,hnr,hb4⟩
    have HNR:=Xa hnr
    have HB4:=Xa (HB1.out.trans ((HB3.out.trans (hb4.mono (by omega))).mono (by omega)))
    obtain ⟨rc,hrc⟩:∃rc,r.1=rc:=⟨_,rfl⟩
    have HRC:=Xa hrc
    rw[hrc]
    clear hnr hb4 hrc
    go_wp2_with fail
    go_ret2
    exact ⟨.slice a4 l4 c4,by rw[HRC.out];rfl,⟨a4,l4,c4,rfl⟩,HNR.out,HB4.out⟩
 ·by_cases k5:kx=5
  ·subst k5
   have HRR:Hid (r=Yu (Zp kl)):=by rw[Hid,HR.out,if_pos (.inl rfl)]
   have HLN:Hid (kl.length=KI):=by rw[Hid,HKL.out (.inl rfl),HRI.out.1]
   have HRIL:Hid ((Xe ns).length=KI):=HRI.out.1
   clear k6
   go_enter Tryz.func79,Tryz.ntmps79
   go_wp2_with fail
   go_loopw [5,7] (fun o i wr=>∃(k:Nat) (rs:Nat→Value) (KV IV:Nat→Nat→Value) (lo:Nat→Nat),k≤KI∧i= .int .i64 k∧Rows2 (w.heap.size+1) wr o k (Xl kl) rs KV IV lo∧Below (w.heap.size+1) W1 wr) (fun _ i _=>KI-(intOf i).toNat)
   case atStart=>exact ⟨0,_,_,_,_,Nat.zero_le _,rfl,HR0.out,HB12.out⟩
   case round=>
    obtain ⟨k,rs,KV,IV,lo,hk,rfl,hrows,hbl⟩:=hrel
    have HRW:=Xa hrows
    have HBL:=Xa hbl
    have zs:=hbl.size
    obtain ⟨ao,co,eo⟩:=Xj hrows.row
    subst eo
    obtain ⟨y0,y3,y4⟩:=HBX.out wr hbl
    clear hrows
    by_cases hlt:k<KI
    ·have HLF:Hid (Xu 3 (k:Int) ByteArray.empty=Xl kl k):=by rw[Hid,HKN.out k (by simp) (by rw[HRIL.out];exact hlt)]
     clear hbl
     go_wp2_with fail
     refine (Xrw k wr).mono ?_
     rintro e w3 ⟨rfl,hn3,hb3⟩
     rw[HLF.out] at hn3
     have HN3:=Xa hn3
     have HB3:=Xa hb3
     have z3:=hb3.size
     have HROW:=Xa (HRW.out.below hb3).row
     clear hn3 hb3
     go_wp2_with (at_builtin;refine wpList_append_own_at _ rfl _ _ 28 rfl (w.heap.size+1) 25 i0 (.slice none 0 0) 1 24 Tryz.underlying28 hi0 hz0 hs0 hy0 rfl (by decide) _ _ _ rfl (HROW.out.alloc _) ⟨w3.heap.size,0,none⟩ 1 1 [.slice (some ⟨wr.heap.size,0,none⟩) 1 1] rfl rfl ?d1 ?d2 ?d3 ?d4 ?d5 ?_)
     case d1=>exact cell_one_new _ _ _
     case d2=>intro u hu;simp at hu;subst hu;rfl
     case d3=>unfold maxLen;omega
     case d4=>omega
     case d5=>simp;omega
     intro v' w5 hown hgrow _ _
     have HR5:=Xa (HRW.out.snoc HB3.out HN3.out hown hgrow)
     have HB5:Hid (Below (w.heap.size+1) W1 w5):=((HBL.out.trans (HB3.out.mono (by omega))).alloc (by omega) _).grown hgrow (by simp;omega) (fun x hx=>(HROW.out.lt x hx).1)
     clear hown hgrow
     go_wp2_with fail
     go_roundw
     case rel=>exact ⟨k+1,_,_,_,_,by omega,by go_num,HR5.out,HB5.out⟩
     case measure=>simp[intOf];omega
    ·obtain rfl:k=KI:=by omega
     have HLR:Hid (LR E (w.heap.size+1) wr (.slice ao k co) ((List.range k).map rs) kl):=Xlx HRW.out HLN.out (by have:=HEL.out;omega) (fun j hj=>by rw[HKN.out j (by simp) (by rw[HRIL.out];exact hj)];exact Xiw (by omega) (by omega))
     have HMK:=Xa (Xaq (kind:=5) (kv:= .slice none 0 0) (keys:= []) (by decide) (by decide) HLR.out (by rw[HLN.out];omega) (StrsAt.nil 0 wr) (Nat.zero_le _) (by simp) (fun i hi=>absurd hi (by simp)))
     clear hbl
     go_wp2_with fail
     refine HMK.out.mono ?_
     rintro e w3 ⟨u,K,I,rfl,hn3,hb3,hl3,hf3⟩
     have HRT:=Xa (Uz (E:=E) hn3 (by have:=HEL.out;omega) (by omega) hf3)
     have HB3:=Xa (HBL.out.trans (hb3.mono (by omega)))
     have z3:=hb3.size
     obtain ⟨a3,c3,e3⟩:=Xj hn3.row
     obtain ⟨L3,hL3⟩:∃L3,(Yn 5 [] (Xl kl) kl.length).length=L3:=⟨_,rfl⟩
     have HQ:Hid (Yu (Yn 5 [] (Xl kl) kl.length)=r):=by rw[Hid,HRR.out];rfl
     rw[HQ.out] at HRT
     rw[hL3] at e3
     subst e3
     clear hn3 hb3 hl3 hf3 hL3
     go_wp2_with fail
     refine HRT.out.mono ?_
     rintro e w4 ⟨u4,rfl,⟨a4,l4,c4,rfl⟩,hnr,hb4⟩
     have HNR:=Xa hnr
     have HB4:=Xa (HB1.out.trans ((HB3.out.trans (hb4.mono (by omega))).mono (by omega)))
     obtain ⟨rc,hrc⟩:∃rc,r.1=rc:=⟨_,rfl⟩
     have HRC:=Xa hrc
     rw[hrc]
     clear hnr hb4 hrc
     go_wp2_with fail
     go_ret2
     exact ⟨.slice a4 l4 c4,by rw[HRC.out];rfl,⟨a4,l4,c4,rfl⟩,HNR.out,HB4.out⟩
  ·have HRR:Hid (r=(2,[])):=by rw[Hid,HR.out,if_neg (by omega)]
   have q5:(kx==5)=false:=by simpa using k5
   have q6:(kx==6)=false:=by simpa using k6
   have hkx:1≤kx∧kx≤4:=by have:=HRK.out;omega
   clear k5 k6
   go_enter Tryz.func79,Tryz.ntmps79
   go_wp2_with fail
   go_ret2
   exact ⟨.slice none 0 0,by rw[HRR.out];rfl,⟨none,0,0,rfl⟩,fun h=>by rw[HRR.out] at h;exact absurd h (by decide),HB2.out⟩

set_option maxRecDepth 100000 in
theorem Xn7 {B E d:Nat} {fv v:Value} {fs:List FN} {ns:List VN} {n fu:Nat} {w:World} (ho:Zs B E fv fs d) (hn:n<fs.length) (hs:SE B E fv fs fu 0 w) (hv:NR E w v ns) (hd:fu≤d):
  Calls Tryz.prog 81 #[.pointer (some ⟨E,0,none⟩), .int .i64 n,v] w (RunAns B E (100 *(d+1)) fv fs (Zq (Xf fs d n ns fu)).c (Zq (Xf fs d n ns fu)).l (Zq (Xf fs d n ns fu)).fu w):=by
 have HO:=Xa (ho n v ns fu w hn hs hv hd)
 obtain ⟨av,cv,rfl⟩:=hv.slice
 obtain ⟨L,hL⟩:∃L,ns.length=L:=⟨_,rfl⟩
 obtain ⟨r,hr⟩:∃r,Xf fs d n ns fu=r:=⟨_,rfl⟩
 rw[hr] at HO⊢
 rw[hL] at HO⊢
 have HR:Hid (Zq r=if r.c=2 then ⟨0,[],r.fu⟩ else r):=rfl
 have HE:Hid (E<w.heap.size):=hs.lt
 obtain ⟨H,hH⟩:∃H,Zq r=H:=⟨_,rfl⟩
 rw[hH] at HR⊢
 clear ho hn hs hv hL hr hH
 go_enter Tryz.func81,Tryz.ntmps81
 go_wp2_with fail
 refine HO.out.mono ?_
 rintro e w1 ⟨sv,xs,m,rfl,hs1,hb1,hl1,hm1,hM1⟩
 obtain ⟨_,_,c2,_,f2⟩:=hs1.cells
 have HS1:=Xa hs1
 have HSET:=Xa (hs1.set 0)
 have HB1:=Xa hb1
 have HL1:=Xa hl1
 have HM1:=Xa hm1
 have HMM:=Xa hM1
 obtain ⟨a1,c1,rfl⟩:=hl1.slice
 by_cases e2:r.c=2
 ·have HQ:Hid (H=⟨0,[],r.fu⟩):=by rw[Hid,HR.out,if_pos e2]
  rw[e2] at c2
  clear hs1 hb1 hl1 hm1 hM1 e2
  go_wp2_with fail
  go_ret
  exact ⟨_,_,[],rfl,by rw[HQ.out];exact HSET.out.1,HB1.out.trans HSET.out.2,LR.nil HE.out,fun _=>by rw[HQ.out],Nat.zero_le _⟩
 ·have HQ:Hid (H=r):=by rw[Hid,HR.out,if_neg e2]
  obtain ⟨C,hC⟩:∃C,r.c=C:=⟨_,rfl⟩
  have HCC:=Xa hC
  rw[hC] at c2 e2
  have q2:(C==2)=false:=by simpa using e2
  obtain ⟨M,hM⟩:∃M,m.length=M:=⟨_,rfl⟩
  have HMQ:=Xa hM
  rw[hM]
  clear hs1 hb1 hl1 hm1 hM1 e2 hC hM
  go_wp2_with fail
  go_ret
  exact ⟨.slice a1 M c1,xs,m,rfl,by rw[HQ.out];exact HS1.out,HB1.out,by rw[←HMQ.out];exact HL1.out,fun h=>by rw[HQ.out] at h⊢;exact HM1.out h,HMM.out⟩

theorem Xrs {P:Program} {w:World} {ops:Array Oper} {o:Oper} {a:Act} {K:Act→World→Prop} {Q:Exit→Act→World→Prop} {E:Prop} (hgd:o.guard=none) (F:FuncId) (x1 x2 x3:Operand) (T1 T2 T3:TypeId)
  (ho:o.op= .call {callee:= .value (.func F),args:= #[x1,x2,x3],argTypes:= #[T1,T2,T3]}) (v1 v2 v3:Value) (h1:a.eval x1=v1) (h2:a.eval x2=v2) (h3:a.eval x3=v3) (hcf:∀w,(callFunc F #[v1,v2,v3]).run P w= .ok (.enter F #[v1,v2,v3]) w) {R:Ending→World→Prop} (hc:Calls P F #[v1,v2,v3] w R)
  (h:∀e w',R e w'→∃u,e= .returned u∧K (a.put o.dst u) w'):
  if Region.wanted o (yielded ops a.tmps)=true then Oper.wp P o a w K Q else E:=by
 have hw:Region.wanted o (yielded ops a.tmps)=true:=by simp[Region.wanted,hgd]
 rw[if_pos hw]
 unfold Oper.wp execOp
 have e1:a.eval (.func F)= .func (.func F) #[] #[]:=rfl
 simp[ho,resolve,invoke,h1,h2,h3,e1,Deferred.ofValue,hcf,Result.andThen,Oper.upon_enter]
 refine hc.mono fun e w' hr=> ?_
 obtain ⟨u,rfl,hk⟩:=h e w' hr
 exact hk
theorem ButE.cellE {E:Nat} {w w':World} (h:ButE E w w') {b o:Nat} {v:Value} (hn:b≠E) (hc:w.cell? ⟨b,o,none⟩=some v):w'.cell? ⟨b,o,none⟩=some v:=
 (World.cell?_of_block (w:=w) (w':=w') (a:=⟨b,o,none⟩) (h.block b (X8 hc) hn)).trans hc
theorem RunAns.ahead {B E M:Nat} {fv:Value} {fs:List FN} {c:Int} {l:List (List VN)} {fu:Nat} {w W w':World} {e:Ending} (h:RunAns B E M fv fs c l fu W e w') (hb:Below w.heap.size w W) (hE:E<w.heap.size):RunAns B E M fv fs c l fu w e w':=by
 obtain ⟨sv,xs,m,he,hs,hbt,hl,hm,hM⟩:=h
 exact ⟨sv,xs,m,he,hs,(ButE.of_below hb).trans hbt,hl.low hb.size hE,hm,hM⟩
theorem Qf {B E d:Nat} {fv v:Value} {fs:List FN} (ho:Zs B E fv fs d) {n:Nat} {ns:List VN} {fu:Nat} {w W:World} (hn:n<fs.length) (hs:SE B E fv fs fu 0 w) (hv:NR E w v ns) (hd:fu≤d) (hb:Below w.heap.size w W):
  Calls Tryz.prog 35 #[.pointer (some ⟨E,0,none⟩), .int .i64 n,v] W (RunAns B E (100 *(d+1)) fv fs (Xf fs d n ns fu).c (Xf fs d n ns fu).l (Xf fs d n ns fu).fu w):=
 (ho n v ns fu W hn (hs.below hb) (hv.below hb) hd).mono fun e w' h=>h.ahead hb hs.lt
structure Loop (B E:Nat) (fv:Value) (fs:List FN) (d:Nat) (W2:World) (av:Value) (axs:List Value) (m:List (List VN)) (c:Int) (fu:Nat) (o:Value) (oxs:List Value) (out:List (List VN)) (wr:World):Prop where
 se:SE B E fv fs fu c wr
 but:ButE E W2 wr
 lo:LR E W2.heap.size wr o oxs out
 la:LR E W2.heap.size wr av axs m
 apart:av.ownBlock=none∨av.ownBlock≠o.ownBlock
 few:out.length≤40+100 *(d+1)
 fud:fu≤d
theorem Loop.keep {B E d fu fu':Nat} {fv av o:Value} {fs:List FN} {W2 wr w':World} {axs oxs:List Value} {m out:List (List VN)} {c c':Int} (h:Loop B E fv fs d W2 av axs m c fu o oxs out wr) (hb:ButE E wr w') (hs:SE B E fv fs fu' c' w') (hf:fu'≤d):Loop B E fv fs d W2 av axs m c' fu' o oxs out w':=
 ⟨hs,h.but.trans hb,h.lo.keep hb,h.la.keep hb,h.apart,h.few,hf⟩
theorem Loop.app {B E d fu:Nat} {fv av o v':Value} {fs:List FN} {W2 w5 w6:World} {axs oxs xs5:List Value} {m out m5:List (List VN)} {c:Int} (h:Loop B E fv fs d W2 av axs m c fu o oxs out w5) (hl:xs5.length=m5.length) (hm:∀j,j<m5.length→NR E w5 (xs5.getD j undef) (Xl m5 j))
  (hown:w6.ownsRow W2.heap.size 25 1 v' (out.length+m5.length) (oxs++xs5)) (hg:w5.grownBy w6 o.ownBlock) (hat:v'.ownBlock=o.ownBlock∨v'.ownBlock=some w5.heap.size) (hfew:out.length+m5.length≤40+100 *(d+1)):Loop B E fv fs d W2 av axs m c fu v' (oxs++xs5) (out++m5) w6:=by
 obtain ⟨h1,h2⟩:=h.lo.append hl hm hown hg
 refine ⟨h.se.grown h.lo.row h.lo.lo hg,FrX.toBut h.but h2 (fun x hx=>(h.lo.row.lt x hx).1),h1,h.la.keepX h2 h.apart, ?_,by rw[List.length_append];exact hfew,h.fud⟩
 rcases h.apart with e|e
 ·exact .inl e
 ·rcases hat with e2|e2
  ·exact .inr (by rw[e2];exact e)
  ·cases e3:av.ownBlock with
   |none=>exact .inl rfl
   |some x=>exact .inr (by rw[e2];intro e4;cases e4;have:=(h.la.row.lt _ e3).2;omega)
theorem Xdi {E:Nat} {w:World} {v:Value} {vs:List VN} (h:NR E w v vs):∀j,j< [vs].length→NR E w ([v].getD j undef) (Xl [vs] j):=by
 intro j hj
 obtain rfl:j=0:=by simpa using hj
 exact h

set_option maxRecDepth 100000 in
theorem X3d {B E d j n:Nat} {fv v:Value} {fs:List FN} {x:FN} {ns:List VN} {w:World} (hok:okF fs=true) (ho:Zs B E fv fs d) (hx:NodeOk fs x) (k:x.kind=23) (hn:n<fs.length) (hxn:Xr fs n=x) (hse:SE B E fv fs (j+1) 0 w) (hv:NR E w v ns) (hj:j≤d) (hd:d≤100000):
  Calls Tryz.prog 35 #[.pointer (some ⟨E,0,none⟩), .int .i64 n,v] w (RunAns B E (100 *(d+2)) fv fs (evM (Xf fs d) x ns Xk (j,[])).1 (evM (Xf fs d) x ns Xk (j,[])).2.2 (evM (Xf fs d) x ns Xk (j,[])).2.1 w):=by
 obtain ⟨W1,W2,W3,b0,o0,cap,aC,cC,aK,cK,aI,cI,hp⟩:=Qo hse hn hxn
 obtain ⟨hfv,q0,q1,q2,z1,hW1,p0,s0,s1,s2,s3,s4,s5,hW2,hW3,g1,g2,g3,hse3,hbut,hbu3,hbox,hE,hB⟩:=hp
 have HS3:=Xa hse3
 have HBT:=Xa hbut
 have HB3:=Xa hbu3
 have HBX:=Xa hbox
 have HV3:Hid (NR E W3 v ns):=(hv.but hbut).below hbu3
 have HOK:=Xa hv.ok
 have HO:=Xa ho
 have HX:=Xa hx
 have HE:=Xa hE
 obtain ⟨av,cv,rfl⟩:=hv.slice
 obtain ⟨R,hR⟩:∃R,evM (Xf fs d) x ns Xk (j,[])=R:=⟨_,rfl⟩
 have HRR:=Xa hR
 rw[hR]
 have hnI:(n:Int)<(fs.length:Int):=by omega
 have hj0:¬((j:Int)+1=0):=by omega
 have hjb:(j:Int)≤1000000:=by omega
 obtain ⟨NF,hNF⟩:∃NF,fs.length=NF:=⟨_,rfl⟩
 rw[hNF] at q0 p0 hnI hn
 have y0:=(Xc hbu3 (by omega)).trans hbox.c0
 have y1:=(Xc hbu3 (by omega)).trans hbox.c1
 have y2:=(Xc hbu3 (by omega)).trans hbox.c2
 have y3:=(Xc hbu3 (by omega)).trans hbox.c3
 have y4:=(Xc hbu3 (by omega)).trans hbox.c4
 have y5:=(Xc hbu3 (by omega)).trans hbox.c5
 obtain ⟨KK,hKK⟩:∃KK,x.kind=KK:=⟨_,rfl⟩
 rw[hKK] at s0 hW2 y0
 have hkl:=hx.one (.inr k)
 obtain ⟨kb,ko,kcap,ek,hkb,k4⟩:=hbox.inn.kids.get (j:=0) (by omega)
 injection ek with ek1 ek2 ek3
 subst ek1 ek3
 obtain ⟨hq0,hq1⟩:=hx.kid 0 (by omega)
 obtain ⟨K0,hK0⟩:∃K0:Nat,Xi x 0=(K0:Int):=⟨(Xi x 0).toNat,by omega⟩
 have HK0:Hid (K0<fs.length∧(Xi x 0).toNat=K0):=by unfold Hid;omega
 have hc0:W3.cell? ⟨kb,ko,none⟩=some (.int .i64 (K0:Int)):=by rw[←hK0];exact (Xc hbu3 (by omega)).trans (by unfold Xi;simpa using k4)
 obtain rfl:KK=23:=by omega
 obtain ⟨r,hr⟩:∃r,Zq (Xf fs d K0 ns j)=r:=⟨_,rfl⟩
 have HRT:Hid (Xa7 Xk r []=R):=by rw[Hid,←hR,Xxx k,HK0.out.2,hr]
 have HC:=Xa (Xn7 HO.out HK0.out.1 HS3.out HV3.out hj)
 rw[hr] at HC
 have hlp:0<x.kids.length:=by omega
 have hlp2:(0:Int)<(x.kids.length:Int):=by omega
 clear hse hv ho hx hxn hok hR hfv hse3 hbut hbu3 hbox hNF hKK hE hB k k4 hkl hq0 hq1 hK0 hr
 go_enter Tryz.func35,Tryz.ntmps35
 go_wp2_with fail
 refine HC.out.mono ?_
 rintro e w4 ⟨sv,xs,m,rfl,hs4,hb4,hl4,hm4,hM4⟩
 have HNW:=Xa (X3n (v:=ns) hm4 HRT.out)
 have HS4:=Xa hs4
 have HB4:=Xa ((ButE.of_below HB3.out).trans hb4)
 have HL4:=Xa hl4
 have HM4:Hid (m.length≤100 *(d+2)):=by unfold Hid;omega
 obtain ⟨a4,c4,rfl⟩:=hl4.slice
 obtain ⟨M,hM⟩:∃M,m.length=M:=⟨_,rfl⟩
 have HMQ:=Xa hM
 rw[hM] at HNW HL4⊢
 clear hs4 hb4 hl4 hm4 hM4 hM
 go_wp2_with fail
 refine (Zc a4 M c4 HS4.out).mono ?_
 rintro e w5 ⟨rfl,hs5,hb5⟩
 have HA:=Xa (Q2 (M:=100 *(d+2)) (e:= .returned (.slice a4 M c4)) rfl HNW.out hs5 HBT.out (HB4.out.trans hb5) (HL4.out.keep hb5) (by omega) HE.out HM4.out)
 clear hs5 hb5
 go_wp2_with fail
 go_ret
 exact HA.out

set_option maxRecDepth 100000 in
theorem X21 {B E d j n:Nat} {fv v:Value} {fs:List FN} {x:FN} {ns:List VN} {w:World} (hok:okF fs=true) (ho:Zs B E fv fs d) (hx:NodeOk fs x) (k:x.kind=21) (hn:n<fs.length) (hxn:Xr fs n=x) (hse:SE B E fv fs (j+1) 0 w) (hv:NR E w v ns) (hj:j≤d) (hd:d≤100000):
  Calls Tryz.prog 35 #[.pointer (some ⟨E,0,none⟩), .int .i64 n,v] w (RunAns B E (100 *(d+2)) fv fs (evM (Xf fs d) x ns Xk (j,[])).1 (evM (Xf fs d) x ns Xk (j,[])).2.2 (evM (Xf fs d) x ns Xk (j,[])).2.1 w):=by
 obtain ⟨W1,W2,W3,b0,o0,cap,aC,cC,aK,cK,aI,cI,hp⟩:=Qo hse hn hxn
 obtain ⟨hfv,q0,q1,q2,z1,hW1,p0,s0,s1,s2,s3,s4,s5,hW2,hW3,g1,g2,g3,hse3,hbut,hbu3,hbox,hE,hB⟩:=hp
 have HS3:=Xa hse3
 have HBT:=Xa hbut
 have HB3:=Xa hbu3
 have HBX:=Xa hbox
 have HV3:Hid (NR E W3 v ns):=(hv.but hbut).below hbu3
 have HOK:=Xa hv.ok
 have HO:=Xa ho
 have HX:=Xa hx
 have HE:=Xa hE
 obtain ⟨av,cv,rfl⟩:=hv.slice
 obtain ⟨R,hR⟩:∃R,evM (Xf fs d) x ns Xk (j,[])=R:=⟨_,rfl⟩
 have HRR:=Xa hR
 rw[hR]
 have hnI:(n:Int)<(fs.length:Int):=by omega
 have hj0:¬((j:Int)+1=0):=by omega
 have hjb:(j:Int)≤1000000:=by omega
 obtain ⟨NF,hNF⟩:∃NF,fs.length=NF:=⟨_,rfl⟩
 rw[hNF] at q0 p0 hnI hn
 have y0:=(Xc hbu3 (by omega)).trans hbox.c0
 have y1:=(Xc hbu3 (by omega)).trans hbox.c1
 have y2:=(Xc hbu3 (by omega)).trans hbox.c2
 have y3:=(Xc hbu3 (by omega)).trans hbox.c3
 have y4:=(Xc hbu3 (by omega)).trans hbox.c4
 have y5:=(Xc hbu3 (by omega)).trans hbox.c5
 obtain ⟨KK,hKK⟩:∃KK,x.kind=KK:=⟨_,rfl⟩
 rw[hKK] at s0 hW2 y0
 have HV2:Hid (NR E W2 (.slice av ns.length cv) ns):=hv.but hbut
 have hkl:=hx.two (by omega)
 obtain ⟨kb,ko,kcap,ek,hkb,k4⟩:=hbox.inn.kids.get (j:=0) (by omega)
 injection ek with ek1 ek2 ek3
 subst ek1 ek3
 obtain ⟨hq0,hq1⟩:=hx.kid 0 (by omega)
 obtain ⟨K0,hK0⟩:∃K0:Nat,Xi x 0=(K0:Int):=⟨(Xi x 0).toNat,by omega⟩
 have HK0:Hid (K0<fs.length∧(Xi x 0).toNat=K0):=by unfold Hid;omega
 have hc0:W3.cell? ⟨kb,ko,none⟩=some (.int .i64 (K0:Int)):=by rw[←hK0];exact (Xc hbu3 (by omega)).trans (by unfold Xi;simpa using k4)
 have k41:=(show IntsAt B W2 _ x.kids from hbox.inn.kids).get (j:=1) (by omega)
 obtain ⟨kb1,ko1,kcap1,ek1,hkb1,k41⟩:=k41
 injection ek1 with eb1 eb2 eb3
 injection eb1 with eb1
 injection eb1 with eb1 eb4 eb5
 clear eb2 eb3 eb5
 subst eb1 eb4
 obtain ⟨hq1a,hq1b⟩:=hx.kid 1 (by omega)
 obtain ⟨K1,hK1⟩:∃K1:Nat,Xi x 1=(K1:Int):=⟨(Xi x 1).toNat,by omega⟩
 have HK1:Hid (K1<fs.length∧(Xi x 1).toNat=K1):=by unfold Hid;omega
 have hc1:W2.cell? ⟨kb,ko+1,none⟩=some (.int .i64 (K1:Int)):=by rw[←hK1];exact k41
 obtain rfl:KK=21:=by omega
 obtain ⟨r0,hr0⟩:∃r0,Zq (Xf fs d K0 ns j)=r0:=⟨_,rfl⟩
 have HR0:=Xa hr0
 have HLE0:Hid (r0.fu≤j):=by rw[Hid,←hr0];exact (Xay (Yr hok d) K0 hv.ok j).2
 have HLE:Hid (∀n ns fu,okB ns=true→(Xf fs d n ns fu).fu≤fu):=(Yr hok d).le
 have hRA:Gt (Xf fs d) (Xi x 1) ns Xk r0 []=R:=by rw[←hR,Xxw k,HK0.out.2,hr0]
 have HFT:Hid (∀m:List (List VN),(r0.c=0→m=r0.l)→(Qz m m.length).length≠0→Now R Xy (Y6 r0.c (Qz m m.length).length) r0.fu (Qz m m.length)):=fun m h ht=>by
  rw[Xn3] at ht⊢
  exact X1i h hRA ht
 have HFF:Hid (∀m:List (List VN),(r0.c=0→m=r0.l)→(Qz m m.length).length=0→Now R (Xq (Xf fs d) (Xi x 1) ns Xk) r0.c r0.fu []):=fun m h ht=>by
  rw[Xn3] at ht
  exact Xx3 h hRA ht
 have HC:=Xa (Xn7 HO.out HK0.out.1 HS3.out HV3.out hj)
 rw[hr0] at HC
 have HLO:Hid (LR E W2.heap.size W3 (.slice (some ⟨w.heap.size+1,0,none⟩) 0 0) [] []):=by rw[Hid,←hW3,←g2];exact ⟨World.ownsRow_lit W2 #[] 0 (Nat.le_refl _) (by simp[maxLen]) rfl,by omega,fun j hj=>absurd hj (by simp)⟩
 have hEw:=hE
 have hkbE:kb≠E:=by omega
 have hlp:1<x.kids.length:=by omega
 have hlp2:(1:Int)<(x.kids.length:Int):=by omega
 have hlp3:0<x.kids.length:=by omega
 have hlp4:(0:Int)<(x.kids.length:Int):=by omega
 obtain ⟨i0,hi0,hz0,hs0,hy0⟩:=info_parts Qu
 obtain ⟨LN,hLN⟩:∃LN,ns.length=LN:=⟨_,rfl⟩
 have HLN:=Xa hLN
 rw[hLN] at HC HV2 HV3⊢
 clear hse hv ho hx hxn hok hR hfv hse3 hbut hbu3 hbox hNF hKK hE hB k k4 hkl hq0 hq1 hK0 hr0 hLN hRA hK1 k41 hq1a hq1b
 go_enter Tryz.func35,Tryz.ntmps35
 go_wp2_with fail
 refine HC.out.mono ?_
 rintro e w4 ⟨sv,xs,m,rfl,hs4,hb4,hl4,hm4,hM4⟩
 have hfu4:r0.fu≤d:=by have:=HLE0.out;omega
 have HLP:Hid (Loop B E fv fs d W2 sv xs m r0.c r0.fu (.slice (some ⟨w.heap.size+1,0,none⟩) 0 0) [] (Qz m 0) w4):=
  ⟨hs4, (ButE.of_below HB3.out).trans hb4, HLO.out.keep hb4, hl4.low HB3.out.size (by have := HE.out; omega), by
   cases e3:sv.ownBlock with
   |none=>exact .inl rfl
   |some y=>exact .inr (by have:=(hl4.row.lt _ e3).1;simp only[Value.ownBlock];intro e4;injection e4 with e4;omega),by simp[Xle,Xlf],hfu4⟩
 obtain ⟨a4,c4,rfl⟩:=hl4.slice
 obtain ⟨M,hM⟩:∃M,m.length=M:=⟨_,rfl⟩
 have HMQ:=Xa hM
 have hMb:M≤20000000:=by omega
 have hMd:M≤100 *(d+1):=by omega
 have HM4:=Xa hm4
 have HG2:=Xa g2
 have HG3:=Xa g3
 rw[hM] at HLP⊢
 clear hs4 hb4 hl4 hm4 hM4 hM g1 g2 g3 y0 y1 y2 y3 y4 y5 hW1 hW2 hW3 s0 s1 s2 s3 s4 s5 p0 q0 q1 q2 z1 hc0
 go_wp2_with fail
 go_loopw [8,20] (fun o i wr=>∃(k:Nat) (oxs:List Value),k≤M∧i= .int .i64 k∧Loop B E fv fs d W2 (.slice a4 M c4) xs m r0.c r0.fu o oxs (Qz m k) wr) (fun _ i _=>M-(intOf i).toNat)
 case atStart=>exact ⟨0,[],Nat.zero_le _,rfl,HLP.out⟩
 case round=>
  obtain ⟨k,oxs,hk,rfl,hlp⟩:=hrel
  have HLP:=Xa hlp
  obtain ⟨ao,co,rfl⟩:=hlp.lo.slice
  have zs:=hlp.but.size
  have hol:=Xz8 m k
  by_cases hlt:k<M
  ·have hltI:(k:Int)<(M:Int):=by omega
   obtain ⟨b,ax,cx,rfl,hbb,hcell,hnr⟩:=hlp.la.cell (j:=k) (by rw[HMQ.out];exact hlt)
   have HNR:=Xa hnr
   have HTC:=Xa (Xcp hnr)
   obtain ⟨tb,htb⟩:∃tb,Xx (Xl m k)=tb:=⟨_,rfl⟩
   have HTB:=Xa htb
   rw[htb] at HTC
   obtain ⟨LX,hLX⟩:∃LX,(Xl m k).length=LX:=⟨_,rfl⟩
   obtain ⟨OL,hO⟩:∃OL,(Qz m k).length=OL:=⟨_,rfl⟩
   have HOL:=Xa hO
   rw[hLX] at hcell HTC HNR
   rw[hO] at HLP hol⊢
   clear hlp hnr htb hLX hO
   go_wp2_with fail
   refine HTC.out.mono ?_
   rintro e w3 ⟨rfl,hb3⟩
   have HLP3:=Xa (HLP.out.keep (.of_below hb3) (HLP.out.se.below hb3) HLP.out.fud)
   have HNR3:=Xa (HNR.out.below hb3)
   have hcell3:=(Xc hb3 (X8 hcell)).trans hcell
   have z3:=hb3.size
   clear hb3
   cases tb
   ·have HEQ:Hid (Qz m (k+1)=Qz m k):=X23 (by rw[HMQ.out];exact hlt) HTB.out
    go_wp2_with fail
    go_roundw
    case rel=>exact ⟨k+1,oxs,by omega,by go_num,by rw[HEQ.out];exact HLP3.out⟩
    case measure=>simp[intOf];omega
   ·have HEQ:Hid (Qz m (k+1)=Qz m k++ [Xl m k]):=Xz7 (by rw[HMQ.out];exact hlt) HTB.out
    have hrow5:=HLP3.out.lo.row
    rw[HOL.out] at hrow5
    go_wp2_with (at_builtin;refine wpList_append_own_at _ rfl _ _ 28 rfl W2.heap.size 25 i0 (.slice none 0 0) 1 24 Tryz.underlying28 hi0 hz0 hs0 hy0 rfl (by decide) _ OL oxs rfl (hrow5.alloc _) ⟨w3.heap.size,0,none⟩ 1 1 [.slice ax LX cx] rfl rfl ?c1 ?c2 ?c3 ?c4 ?c5 ?_)
    case c1=>exact cell_one_new _ _ _
    case c2=>intro u hu;simp at hu;subst hu;rfl
    case c3=>unfold maxLen;omega
    case c4=>omega
    case c5=>simp;omega
    intro v6 w6 hown6 hg6 _ hat6
    have hbA:Below w3.heap.size w3 (w3.alloc (.cells #[.slice ax LX cx] 25)):=(Below.refl _ _).alloc (Nat.le_refl _) _
    have hlpA:=HLP3.out.keep (.of_below hbA) (HLP3.out.se.below hbA) HLP3.out.fud
    rw[←HOL.out] at hown6
    have HLP6:=Xa (hlpA.app (xs5:= [.slice ax LX cx]) (m5:= [Xl m k]) rfl (Xdi (HNR3.out.below hbA)) hown6 hg6 (by simpa using hat6) (by rw[HOL.out];simp;omega))
    obtain ⟨a6,c6,e6⟩:=Xj hown6
    obtain ⟨OL6,hO6⟩:∃OL6,(Qz m k).length+1=OL6:=⟨_,rfl⟩
    rw[hO6] at e6
    subst e6
    rw[←HEQ.out] at HLP6
    clear hown6 hg6 hlpA hrow5 hbA hO6 hat6
    go_wp2_with fail
    go_roundw
    case rel=>exact ⟨k+1,_,by omega,by go_num,HLP6.out⟩
    case measure=>simp[intOf];omega
  ·obtain rfl:k=M:=by omega
   obtain ⟨_,_,q2,_,_⟩:=hlp.se.cells
   have y5:=hlp.but.cellE (show w.heap.size≠E by omega) HBX.out.c5
   have hc1':=hlp.but.cellE hkbE hc1
   have HFW:Hid ((Qz m k).length≤100 *(d+2)):=by unfold Hid;omega
   have HT:Hid ((Qz m k).length≠0→Now R Xy (Y6 r0.c (Qz m k).length) r0.fu (Qz m k)):=fun ht=>by have h1:=HFT.out m HM4.out (by rw[HMQ.out];exact ht);rw[HMQ.out] at h1;exact h1
   have HF:Hid ((Qz m k).length=0→Now R (Xq (Xf fs d) (Xi x 1) ns Xk) r0.c r0.fu []):=fun ht=>HFF.out m HM4.out (by rw[HMQ.out];exact ht)
   obtain ⟨OL,hO⟩:∃OL,(Qz m k).length=OL:=⟨_,rfl⟩
   rw[hO] at HLP HT HF hol⊢
   clear hlp hO
   by_cases hz:OL=0
   ·subst hz
    have HF0:=Xa (HF.out rfl)
    by_cases h0:r0.c=0
    ·have HCR:Hid (∀W,Below wr.heap.size wr W→Calls Tryz.prog 35 #[.pointer (some ⟨E,0,none⟩), .int .i64 K1, .slice av LN cv] W (RunAns B E (100 *(d+1)) fv fs (Xf fs d K1 ns r0.fu).c (Xf fs d K1 ns r0.fu).l (Xf fs d K1 ns r0.fu).fu wr)):=fun W hb=>Qf HO.out HK1.out.1 (by have:=HLP.out.se;rw[h0] at this;exact this) (HV2.out.but HLP.out.but) HLP.out.fud hb
     obtain ⟨r1,hr1⟩:∃r1,Xf fs d K1 ns r0.fu=r1:=⟨_,rfl⟩
     have HLST:Hid (∀m5:List (List VN),(r1.c=0→m5=r1.l)→Now R Xy (Y6 r1.c m5.length) r1.fu m5):=fun m5 h5=>X1j HF0.out h0 (by rw[HK1.out.2];exact hr1) h5
     rw[hr1] at HCR
     have HCR2:=Xa (HCR.out wr (Below.refl _ _))
     clear hr1 h0
     go_wp2_with fail
     refine HCR2.out.mono ?_
     rintro e w5 ⟨sv5,xs5,m5,rfl,hs5,hb5,hl5,hm5,hM5⟩
     have HNP:=Xa (HLST.out m5 hm5)
     have HS5:=Xa hs5
     have HB5:=Xa (HLP.out.but.trans hb5)
     have HL5:=Xa hl5
     have HFW5:Hid (m5.length≤100 *(d+2)):=by unfold Hid;omega
     obtain ⟨a5,c5,rfl⟩:=hl5.slice
     obtain ⟨M5,hM5q⟩:∃M5,m5.length=M5:=⟨_,rfl⟩
     rw[hM5q] at HNP HL5⊢
     clear hs5 hb5 hl5 hm5 hM5 hM5q
     go_wp2_with fail
     refine (Zc a5 M5 c5 HS5.out).mono ?_
     rintro e w6 ⟨rfl,hs6,hb6⟩
     have HA:=Xa (Q2 (M:=100 *(d+2)) (e:= .returned (.slice a5 M5 c5)) rfl HNP.out hs6 HBT.out (HB5.out.trans hb6) (HL5.out.keep hb6) (by have:=HG2.out;omega) HE.out HFW5.out)
     clear hs6 hb6
     go_wp2_with fail
     go_ret
     exact HA.out
    ·have HNP:Hid (Now R Xy r0.c r0.fu []):=HF0.out.dead h0 _ _
     have HDE:=Xa (Xps (K1:Int) av LN cv HLP.out.se h0)
     have HMN:Hid (Y6 r0.c 0=r0.c):=Xbt h0
     have HL0:Hid (LR E W2.heap.size wr (.slice none 0 0) [] []):=LR.nil (by have:=HG2.out;omega)
     clear h0
     go_wp2_with fail
     refine HDE.out.mono ?_
     rintro e w5 ⟨rfl,rfl⟩
     go_wp2_with fail
     refine (Zc none 0 0 HLP.out.se).mono ?_
     rintro e w6 ⟨rfl,hs6,hb6⟩
     rw[HMN.out] at hs6
     have HA:=Xa (Q2 (M:=100 *(d+2)) (e:= .returned (.slice none 0 0)) rfl HNP.out hs6 HBT.out (HLP.out.but.trans hb6) (HL0.out.keep hb6) (by have:=HG2.out;omega) HE.out (by simp))
     clear hs6 hb6
     go_wp2_with fail
     go_ret
     exact HA.out
   ·have HNP:=Xa (HT.out hz)
    have hzI:¬((OL:Int)=0):=by omega
    clear hz
    go_wp2_with fail
    refine (Zc ao OL co HLP.out.se).mono ?_
    rintro e w5 ⟨rfl,hs5,hb5⟩
    have HA:=Xa (Q2 (M:=100 *(d+2)) (e:= .returned (.slice ao OL co)) rfl HNP.out hs5 HBT.out (HLP.out.but.trans hb5) (HLP.out.lo.keep hb5) (by have:=HG2.out;omega) HE.out HFW.out)
    clear hs5 hb5
    go_wp2_with fail
    go_ret
    exact HA.out

structure Side (E:Nat) (W2:World) (bv:Value) (bxs:List Value) (m5:List (List VN)) (o:Value) (wr:World):Prop where
 row:LR E W2.heap.size wr bv bxs m5
 apart:bv.ownBlock=none∨bv.ownBlock≠o.ownBlock
theorem Side.keep {E:Nat} {W2 wr w':World} {bv o:Value} {bxs:List Value} {m5:List (List VN)} (h:Side E W2 bv bxs m5 o wr) (hb:ButE E wr w'):Side E W2 bv bxs m5 o w':=⟨h.row.keep hb,h.apart⟩
theorem Side.app {E:Nat} {W2 w5 w6:World} {bv o v':Value} {bxs oxs:List Value} {m5 out:List (List VN)} (h:Side E W2 bv bxs m5 o w5) (lo:LR E W2.heap.size w5 o oxs out) (hg:w5.grownBy w6 o.ownBlock) (hat:v'.ownBlock=o.ownBlock∨v'.ownBlock=some w5.heap.size):Side E W2 bv bxs m5 v' w6:=by
 refine ⟨h.row.keepX (Xfq lo.row lo.lo hg) h.apart, ?_⟩
 rcases h.apart with e|e
 ·exact .inl e
 ·rcases hat with e2|e2
  ·exact .inr (by rw[e2];exact e)
  ·cases e3:bv.ownBlock with
   |none=>exact .inl rfl
   |some x=>exact .inr (by rw[e2];intro e4;cases e4;have:=(h.row.row.lt _ e3).2;omega)
theorem Side.new {E d fu:Nat} {B:Nat} {fv av o:Value} {fs:List FN} {W2 wr w5:World} {axs oxs bxs:List Value} {m out m5:List (List VN)} {c:Int} {bv:Value} (h:Loop B E fv fs d W2 av axs m c fu o oxs out wr) (hl:LR E wr.heap.size w5 bv bxs m5) (hE:E<W2.heap.size):Side E W2 bv bxs m5 o w5:=by
 refine ⟨hl.low h.but.size hE, ?_⟩
 cases e3:bv.ownBlock with
 |none=>exact .inl rfl
 | some x =>
  refine .inr (fun e4=> ?_)
  have h1:=(hl.row.lt _ e3).1
  have h2:=(h.lo.row.lt _ e4.symm).2
  omega
def Xa0 (B E M:Nat) (fv:Value) (fs:List FN) (R:Int×Xt) (w:World) (e:Ending) (w':World):Prop:=
 ∃sv xs m c fu,e= .returned sv∧SE B E fv fs fu c w'∧ButE E w w'∧LR E w.heap.size w' sv xs m∧Now R Xy c fu m∧m.length≤M
theorem Uo (a b:Value) (w:World):(callFunc 130 #[a,b]).run Tryz.prog w= .ok (.enter 130 #[a,b]) w:=by kernel_rfl
theorem Xvl (a b:Value) (w:World):(callFunc 131 #[a,b]).run Tryz.prog w= .ok (.enter 131 #[a,b]) w:=by kernel_rfl
theorem Xr7 (a b:Value) (w:World):(callFunc 132 #[a,b]).run Tryz.prog w= .ok (.enter 132 #[a,b]) w:=by kernel_rfl
theorem X3w (a:Int):decide (a=0)=(a==0):=by cases h:decide (a=0)<;>simp_all
theorem X3x (a:Int):(!decide (a=0))=(a !=0):=by cases h:decide (a=0)<;>simp_all
theorem Made1.ahead {E:Nat} {r:Int×List VN} {w W w':World} {e:Ending} (h:Made1 E r W e w') (hb:Below w.heap.size w W):Made1 E r w e w':=by
 obtain ⟨u,he,hs,hn,hbl⟩:=h
 exact ⟨u,he,hs,hn,hb.trans (hbl.mono hb.size)⟩

set_option maxRecDepth 100000 in
theorem X5b {B E d fu : Nat} {fv v kc kn ki : Value} {fs : List FN} {x : FN} {ns : List VN} {w : World} (hok : okF fs = true) (ho : Zs B E fv fs d) (hx : NodeOk fs x) (k : x.kind = 17) (hin : FNodeIn B w x kc kn ki) (hs : SE B E fv fs fu 0 w) (hv : NR E w v ns) (hfu : fu ≤ d) (hd : d ≤ 100000) :
  Calls Tryz.prog 82 #[.pointer (some ⟨E,0,none⟩), .int .i64 17,Ya x kc kn ki,v] w (Xa0 B E (100 *(d+2)) fv fs (Xq (Xf fs d) (Xi x 0) ns (fun a=>Xq (Xf fs d) (Xi x 1) ns (fun b=>Xv (Xs 17 a b) Xk)) (fu,[])) w):=by
 have HOK:=Xa hv.ok
 have HO:=Xa ho
 have hBE:=hs.hBE
 have hE:=hs.lt
 have h2k:=hx.two (by omega)
 obtain ⟨_,aC,cC,rfl,_⟩:=id hin.cst
 obtain ⟨_,_,aK,cK,rfl,_⟩:=id hin.names
 obtain ⟨_,_,aI,cI,rfl,_⟩:=id hin.kids
 obtain ⟨kb,ko,kcap,ek,hkb,k4⟩:=hin.kids.get (j:=0) (by omega)
 injection ek with ek1 ek2 ek3
 subst ek1 ek3
 obtain ⟨hq0,hq1⟩:=hx.kid 0 (by omega)
 obtain ⟨K0,hK0⟩:∃K0:Nat,Xi x 0=(K0:Int):=⟨(Xi x 0).toNat,by omega⟩
 have HK0:Hid (K0<fs.length∧(Xi x 0).toNat=K0):=by unfold Hid;omega
 obtain ⟨kb1,ko1,kcap1,ek1,hkb1,k41⟩:=hin.kids.get (j:=1) (by omega)
 injection ek1 with eb1 eb2 eb3
 injection eb1 with eb1
 injection eb1 with eb1 eb4 eb5
 clear eb2 eb3 eb5
 subst eb1 eb4
 obtain ⟨hq1a,hq1b⟩:=hx.kid 1 (by omega)
 obtain ⟨K1,hK1⟩:∃K1:Nat,Xi x 1=(K1:Int):=⟨(Xi x 1).toNat,by omega⟩
 have HK1:Hid (K1<fs.length∧(Xi x 1).toNat=K1):=by unfold Hid;omega
 have l0:w.cell? ⟨kb,ko,none⟩=some (.int .i64 (K0:Int)):=by rw[←hK0];unfold Xi;simpa using k4
 have l1:w.cell? ⟨kb,ko+1,none⟩=some (.int .i64 (K1:Int)):=by rw[←hK1];exact k41
 obtain ⟨W2,hW2⟩:∃W2,w.alloc (.cells #[.int .i64 x.kind, .string x.name, .int .i64 x.place, .slice aC x.cst.length cC, .slice aK x.names.length cK, .slice (some ⟨kb,ko,none⟩) x.kids.length cI] 84)=W2:=⟨_,rfl⟩
 obtain ⟨W3,hW3⟩:∃W3,W2.alloc (.cells #[] 25)=W3:=⟨_,rfl⟩
 have g2:W2.heap.size=w.heap.size+1:=by rw[←hW2];simp
 have g3:W3.heap.size=w.heap.size+2:=by rw[←hW3];simp[g2]
 have hb2:Below w.heap.size w W2:=by rw[←hW2];exact (Below.refl _ _).alloc (Nat.le_refl _) _
 have hb23:Below W2.heap.size W2 W3:=by rw[←hW3];exact (Below.refl _ _).alloc (Nat.le_refl _) _
 have hblk:W2.heap[w.heap.size]? =some (.cells #[.int .i64 x.kind, .string x.name, .int .i64 x.place, .slice aC x.cst.length cC, .slice aK x.names.length cK, .slice (some ⟨kb,ko,none⟩) x.kids.length cI] 84 (0,0)):=by rw[←hW2];exact heap_alloc_new w _
 have b5:=Xg hblk 5
 have b5':W2.cell? ⟨w.heap.size,5,none⟩=some (.slice (some ⟨kb,ko,none⟩) x.kids.length cI):=b5
 have hc0:W2.cell? ⟨kb,ko,none⟩=some (.int .i64 (K0:Int)):=(Xc hb2 (by omega)).trans l0
 have hc1:W2.cell? ⟨kb,ko+1,none⟩=some (.int .i64 (K1:Int)):=(Xc hb2 (by omega)).trans l1
 have y5:W3.cell? ⟨w.heap.size,5,none⟩=some (.slice (some ⟨kb,ko,none⟩) x.kids.length cI):=(Xc hb23 (by omega)).trans b5'
 have hc03:W3.cell? ⟨kb,ko,none⟩=some (.int .i64 (K0:Int)):=(Xc hb23 (by omega)).trans hc0
 have HV2:Hid (NR E W2 v ns):=hv.below hb2
 have HS3:Hid (SE B E fv fs fu 0 W3):=(hs.below hb2).below hb23
 have HV3:Hid (NR E W3 v ns):=HV2.out.below hb23
 have HBT:Hid (ButE E w W2):= .of_below hb2
 have HB3:=Xa hb23
 have HE:=Xa hE
 obtain ⟨R,hR⟩:∃R,Xq (Xf fs d) (Xi x 0) ns (fun a=>Xq (Xf fs d) (Xi x 1) ns (fun b=>Xv (Xs 17 a b) Xk)) (fu,[])=R:=⟨_,rfl⟩
 have HRE:=Xa hR
 rw[hR]
 obtain ⟨r0,hr0⟩:∃r0,Xf fs d K0 ns fu=r0:=⟨_,rfl⟩
 have HR0:=Xa hr0
 have HLE0:Hid (r0.fu≤fu):=by rw[Hid,←hr0];exact (Yr hok d).le _ _ _ hv.ok
 have HLE:Hid (∀n ns fu,okB ns=true→(Xf fs d n ns fu).fu≤fu):=(Yr hok d).le
 have HC:=Xa (Qf HO.out HK0.out.1 HS3.out HV3.out hfu (Below.refl _ _))
 rw[hr0] at HC
 have HLO:Hid (LR E W2.heap.size W3 (.slice (some ⟨w.heap.size+1,0,none⟩) 0 0) [] []):=by rw[Hid,←hW3,←g2];exact ⟨World.ownsRow_lit W2 #[] 0 (Nat.le_refl _) (by simp[maxLen]) rfl,by omega,fun j hj=>absurd hj (by simp)⟩
 have hkbE:kb≠E:=by omega
 have hlp:1<x.kids.length:=by omega
 have hlp2:(1:Int)<(x.kids.length:Int):=by omega
 have hlp3:0<x.kids.length:=by omega
 have hlp4:(0:Int)<(x.kids.length:Int):=by omega
 obtain ⟨i0,hi0,hz0,hs0,hy0⟩:=info_parts Qu
 obtain ⟨av,cv,rfl⟩:=hv.slice
 unfold Ya
 obtain ⟨KX,hKX⟩:∃KX,x.kind=KX:=⟨_,rfl⟩
 rw[hKX] at hW2⊢
 obtain ⟨LN,hLN⟩:∃LN,ns.length=LN:=⟨_,rfl⟩
 rw[hLN] at HC HV2 HV3⊢
 clear ho hx k hin hs hv hok hK0 hK1 k4 k41 l0 l1 hq0 hq1 hq1a hq1b hb2 hb23 hblk b5 hR hr0 h2k hKX hLN
 go_enter Tryz.func82,Tryz.ntmps82
 go_wp2_with fail
 refine HC.out.mono ?_
 rintro e w4 ⟨sv,xs,m,rfl,hs4,hb4,hl4,hm4,hM4⟩
 have HNW:=Xa (Kp (v:=ns) (h:=(fun a=>Xq (Xf fs d) (Xi x 1) ns (fun b=>Xv (Xs 17 a b) Xk))) (by rw[HK0.out.2];exact HR0.out) hm4 HRE.out)
 have hfu4:r0.fu≤d:=by have:=HLE0.out;omega
 have HLP:Hid (Loop B E fv fs d W2 sv xs m r0.c r0.fu (.slice (some ⟨w.heap.size+1,0,none⟩) 0 0) [] [] w4):=
  ⟨hs4, (ButE.of_below HB3.out).trans hb4, HLO.out.keep hb4, hl4.low HB3.out.size (by have := HE.out; omega), by
   cases e3:sv.ownBlock with
   |none=>exact .inl rfl
   |some y=>exact .inr (by have:=(hl4.row.lt _ e3).1;simp only[Value.ownBlock];intro e4;injection e4 with e4;omega),by simp,hfu4⟩
 obtain ⟨a4,c4,rfl⟩:=hl4.slice
 obtain ⟨M,hM⟩:∃M,m.length=M:=⟨_,rfl⟩
 have HMQ:=Xa hM
 have hMb:M≤20000000:=by omega
 have HG2:=Xa g2
 have HG3:=Xa g3
 have HBX:Hid (W2.cell? ⟨w.heap.size,5,none⟩=some (.slice (some ⟨kb,ko,none⟩) x.kids.length cI)):=b5'
 have HC1:=Xa hc1
 rw[hM] at HLP⊢
 clear hs4 hb4 hl4 hm4 hM4 hM g2 g3 y5 hW2 hW3 hc0 hc1 hc03 b5'
 go_wp2_with fail
 go_loopw [9,11,12,13] (fun o i _ _ wr=>∃(k:Nat) (c:Int) (fu:Nat) (oxs:List Value) (out:List (List VN)),k≤M∧i= .int .i64 k∧Hid (Now R (fun st=>Yd (Xo (fun a=>Xq (Xf fs d) (Xi x 1) ns (fun b=>Xv (Xs 17 a b) Xk)) (m.drop k) st) Xy) c fu out)∧Loop B E fv fs d W2 (.slice a4 M c4) xs m c fu o oxs out wr) (fun _ i _ _ _=>M-(intOf i).toNat)
 case atStart=>exact ⟨0,r0.c,r0.fu,[],[],Nat.zero_le _,rfl,HNW.out,HLP.out⟩
 case round =>
  obtain ⟨i,c,fu,oxs,out,hk,rfl,hnow,hlp⟩:=hrel
  obtain ⟨W0,rfl⟩:∃W0,W0=wr:=⟨_,rfl⟩
  have HLP:=Xa hlp
  obtain ⟨ao,co,rfl⟩:=hlp.lo.slice
  obtain ⟨_,_,q2,_,_⟩:=hlp.se.cells
  have zs:=hlp.but.size
  have y5:=hlp.but.cellE (by have:=HE.out;omega) HBX.out
  have hc1':=hlp.but.cellE hkbE HC1.out
  by_cases hlt:i<M
  ·have hltI : (i : Int) < (M : Int) := by omega
   by_cases h0:c=0
   ·subst h0
    obtain ⟨hnx,ho40⟩:=hnow.next rfl (by rw[HMQ.out];exact hlt)
    have HNX:=Xa hnx
    have HO40:=Xa ho40
    obtain ⟨r1,hr1⟩:∃r1,Xf fs d K1 ns fu=r1:=⟨_,rfl⟩
    have HR1:=Xa hr1
    have HCR:Hid (Calls Tryz.prog 35 #[.pointer (some ⟨E,0,none⟩), .int .i64 K1, .slice av LN cv] W0 (RunAns B E (100 *(d+1)) fv fs r1.c r1.l r1.fu W0)):=by
     rw[←hr1]
     exact Qf HO.out HK1.out.1 hlp.se (HV2.out.but hlp.but) hlp.fud (Below.refl _ _)
    have HLF:Hid (r1.fu≤d):=by have h1:=HLE.out K1 ns fu HOK.out;rw[hr1] at h1;exact Nat.le_trans h1 hlp.fud
    obtain ⟨b,ax,cx,rfl,hbb,hcA,hnr⟩:=hlp.la.cell (j:=i) (by rw[HMQ.out];exact hlt)
    obtain ⟨OL,hO⟩:∃OL,out.length=OL:=⟨_,rfl⟩
    have HOL:=Xa hO
    rw[hO] at HLP⊢
    clear hnow hlp hnx ho40 hnr hr1 hO hcA
    go_wp2_with fail
    refine HCR.out.mono ?_
    rintro e w5 ⟨sv5,xs5,m5,rfl,hs5,hb5,hl5,hm5,hM5⟩
    have HNI:=Xa (Us (R:=R) (k:=(fun st=>Yd (Xo (fun a=>Xq (Xf fs d) (Xi x 1) ns (fun b=>Xv (Xs 17 a b) Xk)) (m.drop (i+1)) st) Xy)) (h:=(fun b=>Xv (Xs 17 (Xl m i) b) Xk)) (n:=Xi x 1) (by rw[HK1.out.2];exact HR1.out) hm5 HO40.out HNX.out)
    have HSD:=Xa (Side.new HLP.out hl5 (by have:=HE.out;have:=HG2.out;omega))
    have HLP5:=Xa (HLP.out.keep hb5 hs5 HLF.out)
    obtain ⟨a5,c5,rfl⟩:=hl5.slice
    obtain ⟨M5,hM5q⟩:∃M5,m5.length=M5:=⟨_,rfl⟩
    have HM5:=Xa hM5q
    have hM5b:M5≤20000000:=by omega
    rw[hM5q] at HSD⊢
    clear hs5 hb5 hl5 hm5 hM5 hM5q
    go_wp2_with fail
    go_loopw [9,13] (fun o i2 wr=>∃(k:Nat) (c:Int) (fu:Nat) (oxs:List Value) (out:List (List VN)),k≤M5∧i2= .int .i64 k∧Hid (Now R (fun st=>Yd (Xo (fun b=>Xv (Xs 17 (Xl m i) b) Xk) (m5.drop k) st) (fun st=>Yd (Xo (fun a=>Xq (Xf fs d) (Xi x 1) ns (fun b=>Xv (Xs 17 a b) Xk)) (m.drop (i+1)) st) Xy)) c fu out)∧Loop B E fv fs d W2 (.slice (some ⟨b,0,none⟩) M c4) xs m c fu o oxs out wr∧Side E W2 (.slice a5 M5 c5) xs5 m5 o wr) (fun _ i2 _=>M5-(intOf i2).toNat)
    case atStart=>exact ⟨0,r1.c,r1.fu,oxs,out,Nat.zero_le _,rfl,HNI.out,HLP5.out,HSD.out⟩
    case round =>
     obtain ⟨k,c2,fu2,oxs2,out2,hk2,rfl,hnow2,hlp2',hsd2⟩:=hrel
     have HLP2:=Xa hlp2'
     have HSD2:=Xa hsd2
     obtain ⟨ao2,co2,rfl⟩:=hlp2'.lo.slice
     obtain ⟨_,_,q22,_,_⟩:=hlp2'.se.cells
     have zs2:=hlp2'.but.size
     by_cases hlt2:k<M5
     ·have hltI2:(k:Int)<(M5:Int):=by omega
      by_cases h02:c2=0
      ·subst h02
       obtain ⟨hnx2,ho402⟩:=hnow2.next rfl (by rw[HM5.out];exact hlt2)
       obtain ⟨b',ax2,cx2,ebb,hbb2,hcA2,hnrA⟩:=hlp2'.la.cell (j:=i) (by rw[HMQ.out];exact hlt)
       injection ebb with ebb
       injection ebb with ebb
       subst ebb
       obtain ⟨bB,bx,cy,rfl,hbbB,hcB,hnrB⟩:=hsd2.row.cell (j:=k) (by rw[HM5.out];exact hlt2)
       have HNA:=Xa hnrA
       have HNB:=Xa hnrB
       have HLF2:=Xa hlp2'.fud
       obtain ⟨r9,hr9⟩:∃r9,Xs 17 (Xl m i) (Xl m5 k)=r9:=⟨_,rfl⟩
       have HR9:=Xa hr9
       have HNR9:Hid (Now R (fun st=>Yd (Xo (fun b=>Xv (Xs 17 (Xl m i) b) Xk) (m5.drop (k+1)) st) (fun st=>Yd (Xo (fun a=>Xq (Xf fs d) (Xi x 1) ns (fun b=>Xv (Xs 17 a b) Xk)) (m.drop (i+1)) st) Xy)) (Y6 r9.1 (out2.length+(Y0 r9).length)) fu2 (out2++Y0 r9)):=Uq ho402 (by rw[hnx2,←hr9])
       have HCP:Hid (∀W,Below wr.heap.size wr W→Calls Tryz.prog 130 #[.slice ax2 (Xl m i).length cx2, .slice bx (Xl m5 k).length cy] W fun e w'=>e= .returned (.int .i64 (Yt (Xl m i) (Xl m5 k)))∧Below wr.heap.size wr w'):=fun W hb=>(Wu (hnrA.below hb) (hnrB.below hb)).mono fun e w' h=>⟨h.1,hb.trans (h.2.mono hb.size)⟩
       obtain ⟨od,hod⟩:∃od,Yt (Xl m i) (Xl m5 k)=od:=⟨_,rfl⟩
       have HOD:=Xa hod
       rw[hod] at HCP
       obtain ⟨LX,hLX⟩:∃LX,(Xl m i).length=LX:=⟨_,rfl⟩
       obtain ⟨LY,hLY⟩:∃LY,(Xl m5 k).length=LY:=⟨_,rfl⟩
       obtain ⟨OL2,hO2⟩:∃OL2,out2.length=OL2:=⟨_,rfl⟩
       have HOL2:=Xa hO2
       have hOL40:OL2≤40:=by omega
       rw[hLX] at hcA2 HCP HNA
       rw[hLY] at hcB HCP HNB
       rw[hO2] at HLP2 HSD2 HNR9⊢
       clear hnow2 hlp2' hsd2 hnx2 ho402 hnrA hnrB hr9 hLX hLY hO2 hod
       go_wp2_with fail
       go_region_law (refine Qh (by rfl) 130 _ _ _ _ (by rfl) (.slice ax2 LX cx2) (.slice bx LY cy) (by rfl) (by rfl) (Uo _ _) (HCP.out _ (by first|exact Below.refl _ _|exact (Below.refl _ _).drew)) ?_;rintro e w6 ⟨rfl,hb6⟩;have hcA6:=(Xc hb6 (X8 hcA2)).trans hcA2;have hcB6:=(Xc hb6 (X8 hcB)).trans hcB;refine ⟨_,rfl, ?_⟩)
       all_goals
        have HLP6:=Xa (HLP2.out.keep (.of_below hb6) (HLP2.out.se.below hb6) HLF2.out)
        have HSD6:=Xa (HSD2.out.keep (.of_below hb6))
        have HNA6:=Xa (HNA.out.below hb6)
        have HNB6:=Xa (HNB.out.below hb6)
        have z6:=hb6.size
        clear hb6
        have HEB:Hid (r9=(0,Qd (od==0))):=by
         rw[Hid,←HR9.out]
         unfold Xs Xb4
         rw[if_neg (by decide),if_neg (by decide),HOD.out]
         rw[if_pos rfl,X3w]
        have HMB:=Xa (Xao E (od==0) w6 (by have:=HE.out;have:=HG2.out;omega))
        obtain ⟨nb,hnb⟩:∃nb,Qd (od==0)=nb:=⟨_,rfl⟩
        have HNR10:Hid (Now R (fun st=>Yd (Xo (fun b=>Xv (Xs 17 (Xl m i) b) Xk) (m5.drop (k+1)) st) (fun st=>Yd (Xo (fun a=>Xq (Xf fs d) (Xi x 1) ns (fun b=>Xv (Xs 17 a b) Xk)) (m.drop (i+1)) st) Xy)) (Y6 0 (OL2+1)) fu2 (out2++ [nb])):=by
         have h1:=HNR9.out
         rw[HEB.out,hnb] at h1
         exact h1
        rw[hnb] at HMB
        have hnb1:nb.length=1:=by rw[←hnb];rfl
        clear hnb
        go_wp2_with fail
        refine HMB.out.mono ?_
        rintro e w7 ⟨u7,rfl,⟨a7,c7,rfl⟩,hnr7,hb7⟩
        rw[hnb1] at hnr7⊢
        have hlp7:=HLP6.out.keep (.of_below hb7) (HLP6.out.se.below hb7) HLF2.out
        have hsd7:=HSD6.out.keep (.of_below hb7)
        have hrow7:=hlp7.lo.row
        rw[HOL2.out] at hrow7
        have hz7:=hlp7.but.size
        clear hnb1
        go_wp2_with (at_builtin;refine wpList_append_own_at _ rfl _ _ 28 rfl W2.heap.size 25 i0 (.slice none 0 0) 1 24 Tryz.underlying28 hi0 hz0 hs0 hy0 rfl (by decide) _ OL2 oxs2 rfl (hrow7.alloc _) ⟨w7.heap.size,0,none⟩ 1 1 [.slice a7 1 c7] rfl rfl ?c1 ?c2 ?c3 ?c4 ?c5 ?_)
        case c1=>exact cell_one_new _ _ _
        case c2=>intro u hu;simp at hu;subst hu;rfl
        case c3=>unfold maxLen;omega
        case c4=>omega
        case c5=>simp;omega
        intro v9 w9 hown9 hg9 _ hat9
        have hbA:Below w7.heap.size w7 (w7.alloc (.cells #[.slice a7 1 c7] 25)):=(Below.refl _ _).alloc (Nat.le_refl _) _
        have hlpA:=hlp7.keep (.of_below hbA) (hlp7.se.below hbA) HLF2.out
        have hsdA:=hsd7.keep (.of_below hbA)
        have HSD9:=Xa (hsdA.app hlpA.lo hg9 (by simpa using hat9))
        rw[←HOL2.out] at hown9
        have HLP9:=Xa (hlpA.app (xs5:= [.slice a7 1 c7]) (m5:= [nb]) rfl (Xdi (hnr7.below hbA)) hown9 hg9 (by simpa using hat9) (by rw[HOL2.out];simp;omega))
        obtain ⟨a9,c9,e9⟩:=Xj hown9
        rw[HOL2.out] at e9
        obtain ⟨OL9,hO9⟩:∃OL9,OL2+1=OL9:=⟨_,rfl⟩
        rw[hO9] at e9 HNR10
        subst e9
        clear hown9 hg9 hat9 hlp7 hsd7 hlpA hsdA hrow7 hbA hnr7 hb7 hO9
        go_wp2_with fail
        refine (Zc a9 OL9 c9 HLP9.out.se).mono ?_
        rintro e w10 ⟨rfl,hs10,hb10⟩
        have HLP10:=Xa (HLP9.out.keep hb10 hs10 HLF2.out)
        have HSD10:=Xa (HSD9.out.keep hb10)
        clear hs10 hb10
        go_wp2_with fail
        go_roundw
        case rel=>exact ⟨k+1,_,_,_,_,by omega,by go_num,HNR10.out,HLP10.out,HSD10.out⟩
        case measure=>simp[intOf];omega
      ·have q0:(c2==0)=false:=by simpa using h02
       have HNO:=Xa (hnow2.dead h02 (fun st=>Yd (Xo (fun a=>Xq (Xf fs d) (Xi x 1) ns (fun b=>Xv (Xs 17 a b) Xk)) (m.drop (i+1)) st) Xy) out2)
       clear h02
       clear hnow2 hlp2' hsd2
       go_wp2_with fail
       go_roundw
       case rel=>exact ⟨i+1,_,_,_,_,by omega,by go_num,HNO.out,HLP2.out⟩
       case measure=>simp[intOf];omega
     ·obtain rfl:k=M5:=by omega
      have HNO:=Xa (hnow2.over (by rw[HM5.out];exact Nat.le_refl _))
      clear hnow2 hlp2' hsd2
      go_wp2_with fail
      go_roundw
      case rel=>exact ⟨i+1,_,_,_,_,by omega,by go_num,HNO.out,HLP2.out⟩
      case measure=>simp[intOf];omega
   ·have q0:(c==0)=false:=by simpa using h0
    have HNP:Hid (Now R Xy c fu out):=hnow.dead h0 _ _
    have HFW:Hid (out.length≤100 *(d+2)):=by have:=HLP.out.few;unfold Hid;omega
    obtain ⟨OL,hO⟩:∃OL,out.length=OL:=⟨_,rfl⟩
    have HOL:=Xa hO
    rw[hO] at HLP⊢
    clear h0
    clear hnow hlp hO
    go_wp2_with fail
    go_ret
    exact ⟨.slice ao OL co,oxs,out,c,fu,rfl,HLP.out.se,HBT.out.trans HLP.out.but,HLP.out.lo.low (by have:=HG2.out;omega) HE.out,HNP.out,HFW.out⟩
  ·obtain rfl:i=M:=by omega
   have HNP:Hid (Now R Xy c fu out):=hnow.over (by rw[HMQ.out];exact Nat.le_refl _)
   have HFW:Hid (out.length≤100 *(d+2)):=by have:=HLP.out.few;unfold Hid;omega
   obtain ⟨OL,hO⟩:∃OL,out.length=OL:=⟨_,rfl⟩
   have HOL:=Xa hO
   rw[hO] at HLP⊢
   clear hnow hlp hO
   go_wp2_with fail
   go_ret
   exact ⟨.slice ao OL co,oxs,out,c,fu,rfl,HLP.out.se,HBT.out.trans HLP.out.but,HLP.out.lo.low (by have:=HG2.out;omega) HE.out,HNP.out,HFW.out⟩

set_option maxRecDepth 100000 in
theorem X4m {B E d fu : Nat} {fv v kc kn ki : Value} {fs : List FN} {x : FN} {ns : List VN} {w : World} (hok : okF fs = true) (ho : Zs B E fv fs d) (hx : NodeOk fs x) (k : x.kind = 18) (hin : FNodeIn B w x kc kn ki) (hs : SE B E fv fs fu 0 w) (hv : NR E w v ns) (hfu : fu ≤ d) (hd : d ≤ 100000) :
  Calls Tryz.prog 82 #[.pointer (some ⟨E,0,none⟩), .int .i64 18,Ya x kc kn ki,v] w (Xa0 B E (100 *(d+2)) fv fs (Xq (Xf fs d) (Xi x 0) ns (fun a=>Xq (Xf fs d) (Xi x 1) ns (fun b=>Xv (Xs 18 a b) Xk)) (fu,[])) w):=by
 have HOK:=Xa hv.ok
 have HO:=Xa ho
 have hBE:=hs.hBE
 have hE:=hs.lt
 have h2k:=hx.two (by omega)
 obtain ⟨_,aC,cC,rfl,_⟩:=id hin.cst
 obtain ⟨_,_,aK,cK,rfl,_⟩:=id hin.names
 obtain ⟨_,_,aI,cI,rfl,_⟩:=id hin.kids
 obtain ⟨kb,ko,kcap,ek,hkb,k4⟩:=hin.kids.get (j:=0) (by omega)
 injection ek with ek1 ek2 ek3
 subst ek1 ek3
 obtain ⟨hq0,hq1⟩:=hx.kid 0 (by omega)
 obtain ⟨K0,hK0⟩:∃K0:Nat,Xi x 0=(K0:Int):=⟨(Xi x 0).toNat,by omega⟩
 have HK0:Hid (K0<fs.length∧(Xi x 0).toNat=K0):=by unfold Hid;omega
 obtain ⟨kb1,ko1,kcap1,ek1,hkb1,k41⟩:=hin.kids.get (j:=1) (by omega)
 injection ek1 with eb1 eb2 eb3
 injection eb1 with eb1
 injection eb1 with eb1 eb4 eb5
 clear eb2 eb3 eb5
 subst eb1 eb4
 obtain ⟨hq1a,hq1b⟩:=hx.kid 1 (by omega)
 obtain ⟨K1,hK1⟩:∃K1:Nat,Xi x 1=(K1:Int):=⟨(Xi x 1).toNat,by omega⟩
 have HK1:Hid (K1<fs.length∧(Xi x 1).toNat=K1):=by unfold Hid;omega
 have l0:w.cell? ⟨kb,ko,none⟩=some (.int .i64 (K0:Int)):=by rw[←hK0];unfold Xi;simpa using k4
 have l1:w.cell? ⟨kb,ko+1,none⟩=some (.int .i64 (K1:Int)):=by rw[←hK1];exact k41
 obtain ⟨W2,hW2⟩:∃W2,w.alloc (.cells #[.int .i64 x.kind, .string x.name, .int .i64 x.place, .slice aC x.cst.length cC, .slice aK x.names.length cK, .slice (some ⟨kb,ko,none⟩) x.kids.length cI] 84)=W2:=⟨_,rfl⟩
 obtain ⟨W3,hW3⟩:∃W3,W2.alloc (.cells #[] 25)=W3:=⟨_,rfl⟩
 have g2:W2.heap.size=w.heap.size+1:=by rw[←hW2];simp
 have g3:W3.heap.size=w.heap.size+2:=by rw[←hW3];simp[g2]
 have hb2:Below w.heap.size w W2:=by rw[←hW2];exact (Below.refl _ _).alloc (Nat.le_refl _) _
 have hb23:Below W2.heap.size W2 W3:=by rw[←hW3];exact (Below.refl _ _).alloc (Nat.le_refl _) _
 have hblk:W2.heap[w.heap.size]? =some (.cells #[.int .i64 x.kind, .string x.name, .int .i64 x.place, .slice aC x.cst.length cC, .slice aK x.names.length cK, .slice (some ⟨kb,ko,none⟩) x.kids.length cI] 84 (0,0)):=by rw[←hW2];exact heap_alloc_new w _
 have b5:=Xg hblk 5
 have b5':W2.cell? ⟨w.heap.size,5,none⟩=some (.slice (some ⟨kb,ko,none⟩) x.kids.length cI):=b5
 have hc0:W2.cell? ⟨kb,ko,none⟩=some (.int .i64 (K0:Int)):=(Xc hb2 (by omega)).trans l0
 have hc1:W2.cell? ⟨kb,ko+1,none⟩=some (.int .i64 (K1:Int)):=(Xc hb2 (by omega)).trans l1
 have y5:W3.cell? ⟨w.heap.size,5,none⟩=some (.slice (some ⟨kb,ko,none⟩) x.kids.length cI):=(Xc hb23 (by omega)).trans b5'
 have hc03:W3.cell? ⟨kb,ko,none⟩=some (.int .i64 (K0:Int)):=(Xc hb23 (by omega)).trans hc0
 have HV2:Hid (NR E W2 v ns):=hv.below hb2
 have HS3:Hid (SE B E fv fs fu 0 W3):=(hs.below hb2).below hb23
 have HV3:Hid (NR E W3 v ns):=HV2.out.below hb23
 have HBT:Hid (ButE E w W2):= .of_below hb2
 have HB3:=Xa hb23
 have HE:=Xa hE
 obtain ⟨R,hR⟩:∃R,Xq (Xf fs d) (Xi x 0) ns (fun a=>Xq (Xf fs d) (Xi x 1) ns (fun b=>Xv (Xs 18 a b) Xk)) (fu,[])=R:=⟨_,rfl⟩
 have HRE:=Xa hR
 rw[hR]
 obtain ⟨r0,hr0⟩:∃r0,Xf fs d K0 ns fu=r0:=⟨_,rfl⟩
 have HR0:=Xa hr0
 have HLE0:Hid (r0.fu≤fu):=by rw[Hid,←hr0];exact (Yr hok d).le _ _ _ hv.ok
 have HLE:Hid (∀n ns fu,okB ns=true→(Xf fs d n ns fu).fu≤fu):=(Yr hok d).le
 have HC:=Xa (Qf HO.out HK0.out.1 HS3.out HV3.out hfu (Below.refl _ _))
 rw[hr0] at HC
 have HLO:Hid (LR E W2.heap.size W3 (.slice (some ⟨w.heap.size+1,0,none⟩) 0 0) [] []):=by rw[Hid,←hW3,←g2];exact ⟨World.ownsRow_lit W2 #[] 0 (Nat.le_refl _) (by simp[maxLen]) rfl,by omega,fun j hj=>absurd hj (by simp)⟩
 have hkbE:kb≠E:=by omega
 have hlp:1<x.kids.length:=by omega
 have hlp2:(1:Int)<(x.kids.length:Int):=by omega
 have hlp3:0<x.kids.length:=by omega
 have hlp4:(0:Int)<(x.kids.length:Int):=by omega
 obtain ⟨i0,hi0,hz0,hs0,hy0⟩:=info_parts Qu
 obtain ⟨av,cv,rfl⟩:=hv.slice
 unfold Ya
 obtain ⟨KX,hKX⟩:∃KX,x.kind=KX:=⟨_,rfl⟩
 rw[hKX] at hW2⊢
 obtain ⟨LN,hLN⟩:∃LN,ns.length=LN:=⟨_,rfl⟩
 rw[hLN] at HC HV2 HV3⊢
 clear ho hx k hin hs hv hok hK0 hK1 k4 k41 l0 l1 hq0 hq1 hq1a hq1b hb2 hb23 hblk b5 hR hr0 h2k hKX hLN
 go_enter Tryz.func82,Tryz.ntmps82
 go_wp2_with fail
 refine HC.out.mono ?_
 rintro e w4 ⟨sv,xs,m,rfl,hs4,hb4,hl4,hm4,hM4⟩
 have HNW:=Xa (Kp (v:=ns) (h:=(fun a=>Xq (Xf fs d) (Xi x 1) ns (fun b=>Xv (Xs 18 a b) Xk))) (by rw[HK0.out.2];exact HR0.out) hm4 HRE.out)
 have hfu4:r0.fu≤d:=by have:=HLE0.out;omega
 have HLP:Hid (Loop B E fv fs d W2 sv xs m r0.c r0.fu (.slice (some ⟨w.heap.size+1,0,none⟩) 0 0) [] [] w4):=
  ⟨hs4, (ButE.of_below HB3.out).trans hb4, HLO.out.keep hb4, hl4.low HB3.out.size (by have := HE.out; omega), by
   cases e3:sv.ownBlock with
   |none=>exact .inl rfl
   |some y=>exact .inr (by have:=(hl4.row.lt _ e3).1;simp only[Value.ownBlock];intro e4;injection e4 with e4;omega),by simp,hfu4⟩
 obtain ⟨a4,c4,rfl⟩:=hl4.slice
 obtain ⟨M,hM⟩:∃M,m.length=M:=⟨_,rfl⟩
 have HMQ:=Xa hM
 have hMb:M≤20000000:=by omega
 have HG2:=Xa g2
 have HG3:=Xa g3
 have HBX:Hid (W2.cell? ⟨w.heap.size,5,none⟩=some (.slice (some ⟨kb,ko,none⟩) x.kids.length cI)):=b5'
 have HC1:=Xa hc1
 rw[hM] at HLP⊢
 clear hs4 hb4 hl4 hm4 hM4 hM g2 g3 y5 hW2 hW3 hc0 hc1 hc03 b5'
 go_wp2_with fail
 go_loopw [9,11,12,13] (fun o i _ _ wr=>∃(k:Nat) (c:Int) (fu:Nat) (oxs:List Value) (out:List (List VN)),k≤M∧i= .int .i64 k∧Hid (Now R (fun st=>Yd (Xo (fun a=>Xq (Xf fs d) (Xi x 1) ns (fun b=>Xv (Xs 18 a b) Xk)) (m.drop k) st) Xy) c fu out)∧Loop B E fv fs d W2 (.slice a4 M c4) xs m c fu o oxs out wr) (fun _ i _ _ _=>M-(intOf i).toNat)
 case atStart=>exact ⟨0,r0.c,r0.fu,[],[],Nat.zero_le _,rfl,HNW.out,HLP.out⟩
 case round =>
  obtain ⟨i,c,fu,oxs,out,hk,rfl,hnow,hlp⟩:=hrel
  obtain ⟨W0,rfl⟩:∃W0,W0=wr:=⟨_,rfl⟩
  have HLP:=Xa hlp
  obtain ⟨ao,co,rfl⟩:=hlp.lo.slice
  obtain ⟨_,_,q2,_,_⟩:=hlp.se.cells
  have zs:=hlp.but.size
  have y5:=hlp.but.cellE (by have:=HE.out;omega) HBX.out
  have hc1':=hlp.but.cellE hkbE HC1.out
  by_cases hlt:i<M
  ·have hltI : (i : Int) < (M : Int) := by omega
   by_cases h0:c=0
   ·subst h0
    obtain ⟨hnx,ho40⟩:=hnow.next rfl (by rw[HMQ.out];exact hlt)
    have HNX:=Xa hnx
    have HO40:=Xa ho40
    obtain ⟨r1,hr1⟩:∃r1,Xf fs d K1 ns fu=r1:=⟨_,rfl⟩
    have HR1:=Xa hr1
    have HCR:Hid (Calls Tryz.prog 35 #[.pointer (some ⟨E,0,none⟩), .int .i64 K1, .slice av LN cv] W0 (RunAns B E (100 *(d+1)) fv fs r1.c r1.l r1.fu W0)):=by
     rw[←hr1]
     exact Qf HO.out HK1.out.1 hlp.se (HV2.out.but hlp.but) hlp.fud (Below.refl _ _)
    have HLF:Hid (r1.fu≤d):=by have h1:=HLE.out K1 ns fu HOK.out;rw[hr1] at h1;exact Nat.le_trans h1 hlp.fud
    obtain ⟨b,ax,cx,rfl,hbb,hcA,hnr⟩:=hlp.la.cell (j:=i) (by rw[HMQ.out];exact hlt)
    obtain ⟨OL,hO⟩:∃OL,out.length=OL:=⟨_,rfl⟩
    have HOL:=Xa hO
    rw[hO] at HLP⊢
    clear hnow hlp hnx ho40 hnr hr1 hO hcA
    go_wp2_with fail
    refine HCR.out.mono ?_
    rintro e w5 ⟨sv5,xs5,m5,rfl,hs5,hb5,hl5,hm5,hM5⟩
    have HNI:=Xa (Us (R:=R) (k:=(fun st=>Yd (Xo (fun a=>Xq (Xf fs d) (Xi x 1) ns (fun b=>Xv (Xs 18 a b) Xk)) (m.drop (i+1)) st) Xy)) (h:=(fun b=>Xv (Xs 18 (Xl m i) b) Xk)) (n:=Xi x 1) (by rw[HK1.out.2];exact HR1.out) hm5 HO40.out HNX.out)
    have HSD:=Xa (Side.new HLP.out hl5 (by have:=HE.out;have:=HG2.out;omega))
    have HLP5:=Xa (HLP.out.keep hb5 hs5 HLF.out)
    obtain ⟨a5,c5,rfl⟩:=hl5.slice
    obtain ⟨M5,hM5q⟩:∃M5,m5.length=M5:=⟨_,rfl⟩
    have HM5:=Xa hM5q
    have hM5b:M5≤20000000:=by omega
    rw[hM5q] at HSD⊢
    clear hs5 hb5 hl5 hm5 hM5 hM5q
    go_wp2_with fail
    go_loopw [9,13] (fun o i2 wr=>∃(k:Nat) (c:Int) (fu:Nat) (oxs:List Value) (out:List (List VN)),k≤M5∧i2= .int .i64 k∧Hid (Now R (fun st=>Yd (Xo (fun b=>Xv (Xs 18 (Xl m i) b) Xk) (m5.drop k) st) (fun st=>Yd (Xo (fun a=>Xq (Xf fs d) (Xi x 1) ns (fun b=>Xv (Xs 18 a b) Xk)) (m.drop (i+1)) st) Xy)) c fu out)∧Loop B E fv fs d W2 (.slice (some ⟨b,0,none⟩) M c4) xs m c fu o oxs out wr∧Side E W2 (.slice a5 M5 c5) xs5 m5 o wr) (fun _ i2 _=>M5-(intOf i2).toNat)
    case atStart=>exact ⟨0,r1.c,r1.fu,oxs,out,Nat.zero_le _,rfl,HNI.out,HLP5.out,HSD.out⟩
    case round =>
     obtain ⟨k,c2,fu2,oxs2,out2,hk2,rfl,hnow2,hlp2',hsd2⟩:=hrel
     have HLP2:=Xa hlp2'
     have HSD2:=Xa hsd2
     obtain ⟨ao2,co2,rfl⟩:=hlp2'.lo.slice
     obtain ⟨_,_,q22,_,_⟩:=hlp2'.se.cells
     have zs2:=hlp2'.but.size
     by_cases hlt2:k<M5
     ·have hltI2:(k:Int)<(M5:Int):=by omega
      by_cases h02:c2=0
      ·subst h02
       obtain ⟨hnx2,ho402⟩:=hnow2.next rfl (by rw[HM5.out];exact hlt2)
       obtain ⟨b',ax2,cx2,ebb,hbb2,hcA2,hnrA⟩:=hlp2'.la.cell (j:=i) (by rw[HMQ.out];exact hlt)
       injection ebb with ebb
       injection ebb with ebb
       subst ebb
       obtain ⟨bB,bx,cy,rfl,hbbB,hcB,hnrB⟩:=hsd2.row.cell (j:=k) (by rw[HM5.out];exact hlt2)
       have HNA:=Xa hnrA
       have HNB:=Xa hnrB
       have HLF2:=Xa hlp2'.fud
       obtain ⟨r9,hr9⟩:∃r9,Xs 18 (Xl m i) (Xl m5 k)=r9:=⟨_,rfl⟩
       have HR9:=Xa hr9
       have HNR9:Hid (Now R (fun st=>Yd (Xo (fun b=>Xv (Xs 18 (Xl m i) b) Xk) (m5.drop (k+1)) st) (fun st=>Yd (Xo (fun a=>Xq (Xf fs d) (Xi x 1) ns (fun b=>Xv (Xs 18 a b) Xk)) (m.drop (i+1)) st) Xy)) (Y6 r9.1 (out2.length+(Y0 r9).length)) fu2 (out2++Y0 r9)):=Uq ho402 (by rw[hnx2,←hr9])
       have HCP:Hid (∀W,Below wr.heap.size wr W→Calls Tryz.prog 130 #[.slice ax2 (Xl m i).length cx2, .slice bx (Xl m5 k).length cy] W fun e w'=>e= .returned (.int .i64 (Yt (Xl m i) (Xl m5 k)))∧Below wr.heap.size wr w'):=fun W hb=>(Wu (hnrA.below hb) (hnrB.below hb)).mono fun e w' h=>⟨h.1,hb.trans (h.2.mono hb.size)⟩
       obtain ⟨od,hod⟩:∃od,Yt (Xl m i) (Xl m5 k)=od:=⟨_,rfl⟩
       have HOD:=Xa hod
       rw[hod] at HCP
       obtain ⟨LX,hLX⟩:∃LX,(Xl m i).length=LX:=⟨_,rfl⟩
       obtain ⟨LY,hLY⟩:∃LY,(Xl m5 k).length=LY:=⟨_,rfl⟩
       obtain ⟨OL2,hO2⟩:∃OL2,out2.length=OL2:=⟨_,rfl⟩
       have HOL2:=Xa hO2
       have hOL40:OL2≤40:=by omega
       rw[hLX] at hcA2 HCP HNA
       rw[hLY] at hcB HCP HNB
       rw[hO2] at HLP2 HSD2 HNR9⊢
       clear hnow2 hlp2' hsd2 hnx2 ho402 hnrA hnrB hr9 hLX hLY hO2 hod
       go_wp2_with fail
       go_region_law (refine Qh (by rfl) 130 _ _ _ _ (by rfl) (.slice ax2 LX cx2) (.slice bx LY cy) (by rfl) (by rfl) (Uo _ _) (HCP.out _ (by first|exact Below.refl _ _|exact (Below.refl _ _).drew)) ?_;rintro e w6 ⟨rfl,hb6⟩;have hcA6:=(Xc hb6 (X8 hcA2)).trans hcA2;have hcB6:=(Xc hb6 (X8 hcB)).trans hcB;refine ⟨_,rfl, ?_⟩)
       all_goals
        have HLP6:=Xa (HLP2.out.keep (.of_below hb6) (HLP2.out.se.below hb6) HLF2.out)
        have HSD6:=Xa (HSD2.out.keep (.of_below hb6))
        have HNA6:=Xa (HNA.out.below hb6)
        have HNB6:=Xa (HNB.out.below hb6)
        have z6:=hb6.size
        clear hb6
        have HEB:Hid (r9=(0,Qd (od !=0))):=by
         rw[Hid,←HR9.out]
         unfold Xs Xb4
         rw[if_neg (by decide),if_neg (by decide),HOD.out]
         rw[if_neg (by decide),if_pos rfl,X3x]
        have HMB:=Xa (Xao E (od !=0) w6 (by have:=HE.out;have:=HG2.out;omega))
        obtain ⟨nb,hnb⟩:∃nb,Qd (od !=0)=nb:=⟨_,rfl⟩
        have HNR10:Hid (Now R (fun st=>Yd (Xo (fun b=>Xv (Xs 18 (Xl m i) b) Xk) (m5.drop (k+1)) st) (fun st=>Yd (Xo (fun a=>Xq (Xf fs d) (Xi x 1) ns (fun b=>Xv (Xs 18 a b) Xk)) (m.drop (i+1)) st) Xy)) (Y6 0 (OL2+1)) fu2 (out2++ [nb])):=by
         have h1:=HNR9.out
         rw[HEB.out,hnb] at h1
         exact h1
        rw[hnb] at HMB
        have hnb1:nb.length=1:=by rw[←hnb];rfl
        clear hnb
        go_wp2_with fail
        refine HMB.out.mono ?_
        rintro e w7 ⟨u7,rfl,⟨a7,c7,rfl⟩,hnr7,hb7⟩
        rw[hnb1] at hnr7⊢
        have hlp7:=HLP6.out.keep (.of_below hb7) (HLP6.out.se.below hb7) HLF2.out
        have hsd7:=HSD6.out.keep (.of_below hb7)
        have hrow7:=hlp7.lo.row
        rw[HOL2.out] at hrow7
        have hz7:=hlp7.but.size
        clear hnb1
        go_wp2_with (at_builtin;refine wpList_append_own_at _ rfl _ _ 28 rfl W2.heap.size 25 i0 (.slice none 0 0) 1 24 Tryz.underlying28 hi0 hz0 hs0 hy0 rfl (by decide) _ OL2 oxs2 rfl (hrow7.alloc _) ⟨w7.heap.size,0,none⟩ 1 1 [.slice a7 1 c7] rfl rfl ?c1 ?c2 ?c3 ?c4 ?c5 ?_)
        case c1=>exact cell_one_new _ _ _
        case c2=>intro u hu;simp at hu;subst hu;rfl
        case c3=>unfold maxLen;omega
        case c4=>omega
        case c5=>simp;omega
        intro v9 w9 hown9 hg9 _ hat9
        have hbA:Below w7.heap.size w7 (w7.alloc (.cells #[.slice a7 1 c7] 25)):=(Below.refl _ _).alloc (Nat.le_refl _) _
        have hlpA:=hlp7.keep (.of_below hbA) (hlp7.se.below hbA) HLF2.out
        have hsdA:=hsd7.keep (.of_below hbA)
        have HSD9:=Xa (hsdA.app hlpA.lo hg9 (by simpa using hat9))
        rw[←HOL2.out] at hown9
        have HLP9:=Xa (hlpA.app (xs5:= [.slice a7 1 c7]) (m5:= [nb]) rfl (Xdi (hnr7.below hbA)) hown9 hg9 (by simpa using hat9) (by rw[HOL2.out];simp;omega))
        obtain ⟨a9,c9,e9⟩:=Xj hown9
        rw[HOL2.out] at e9
        obtain ⟨OL9,hO9⟩:∃OL9,OL2+1=OL9:=⟨_,rfl⟩
        rw[hO9] at e9 HNR10
        subst e9
        clear hown9 hg9 hat9 hlp7 hsd7 hlpA hsdA hrow7 hbA hnr7 hb7 hO9
        go_wp2_with fail
        refine (Zc a9 OL9 c9 HLP9.out.se).mono ?_
        rintro e w10 ⟨rfl,hs10,hb10⟩
        have HLP10:=Xa (HLP9.out.keep hb10 hs10 HLF2.out)
        have HSD10:=Xa (HSD9.out.keep hb10)
        clear hs10 hb10
        go_wp2_with fail
        go_roundw
        case rel=>exact ⟨k+1,_,_,_,_,by omega,by go_num,HNR10.out,HLP10.out,HSD10.out⟩
        case measure=>simp[intOf];omega
      ·have q0:(c2==0)=false:=by simpa using h02
       have HNO:=Xa (hnow2.dead h02 (fun st=>Yd (Xo (fun a=>Xq (Xf fs d) (Xi x 1) ns (fun b=>Xv (Xs 18 a b) Xk)) (m.drop (i+1)) st) Xy) out2)
       clear h02
       clear hnow2 hlp2' hsd2
       go_wp2_with fail
       go_roundw
       case rel=>exact ⟨i+1,_,_,_,_,by omega,by go_num,HNO.out,HLP2.out⟩
       case measure=>simp[intOf];omega
     ·obtain rfl:k=M5:=by omega
      have HNO:=Xa (hnow2.over (by rw[HM5.out];exact Nat.le_refl _))
      clear hnow2 hlp2' hsd2
      go_wp2_with fail
      go_roundw
      case rel=>exact ⟨i+1,_,_,_,_,by omega,by go_num,HNO.out,HLP2.out⟩
      case measure=>simp[intOf];omega
   ·have q0:(c==0)=false:=by simpa using h0
    have HNP:Hid (Now R Xy c fu out):=hnow.dead h0 _ _
    have HFW:Hid (out.length≤100 *(d+2)):=by have:=HLP.out.few;unfold Hid;omega
    obtain ⟨OL,hO⟩:∃OL,out.length=OL:=⟨_,rfl⟩
    have HOL:=Xa hO
    rw[hO] at HLP⊢
    clear h0
    clear hnow hlp hO
    go_wp2_with fail
    go_ret
    exact ⟨.slice ao OL co,oxs,out,c,fu,rfl,HLP.out.se,HBT.out.trans HLP.out.but,HLP.out.lo.low (by have:=HG2.out;omega) HE.out,HNP.out,HFW.out⟩
  ·obtain rfl:i=M:=by omega
   have HNP:Hid (Now R Xy c fu out):=hnow.over (by rw[HMQ.out];exact Nat.le_refl _)
   have HFW:Hid (out.length≤100 *(d+2)):=by have:=HLP.out.few;unfold Hid;omega
   obtain ⟨OL,hO⟩:∃OL,out.length=OL:=⟨_,rfl⟩
   have HOL:=Xa hO
   rw[hO] at HLP⊢
   clear hnow hlp hO
   go_wp2_with fail
   go_ret
   exact ⟨.slice ao OL co,oxs,out,c,fu,rfl,HLP.out.se,HBT.out.trans HLP.out.but,HLP.out.lo.low (by have:=HG2.out;omega) HE.out,HNP.out,HFW.out⟩

set_option maxRecDepth 100000 in
theorem X49 {B E d fu : Nat} {fv v kc kn ki : Value} {fs : List FN} {x : FN} {ns : List VN} {w : World} (hok : okF fs = true) (ho : Zs B E fv fs d) (hx : NodeOk fs x) (k : x.kind = 19) (hin : FNodeIn B w x kc kn ki) (hs : SE B E fv fs fu 0 w) (hv : NR E w v ns) (hfu : fu ≤ d) (hd : d ≤ 100000) :
  Calls Tryz.prog 82 #[.pointer (some ⟨E,0,none⟩), .int .i64 19,Ya x kc kn ki,v] w (Xa0 B E (100 *(d+2)) fv fs (Xq (Xf fs d) (Xi x 0) ns (fun a=>Xq (Xf fs d) (Xi x 1) ns (fun b=>Xv (Xs 19 a b) Xk)) (fu,[])) w):=by
 have HOK:=Xa hv.ok
 have HO:=Xa ho
 have hBE:=hs.hBE
 have hE:=hs.lt
 have h2k:=hx.two (by omega)
 obtain ⟨_,aC,cC,rfl,_⟩:=id hin.cst
 obtain ⟨_,_,aK,cK,rfl,_⟩:=id hin.names
 obtain ⟨_,_,aI,cI,rfl,_⟩:=id hin.kids
 obtain ⟨kb,ko,kcap,ek,hkb,k4⟩:=hin.kids.get (j:=0) (by omega)
 injection ek with ek1 ek2 ek3
 subst ek1 ek3
 obtain ⟨hq0,hq1⟩:=hx.kid 0 (by omega)
 obtain ⟨K0,hK0⟩:∃K0:Nat,Xi x 0=(K0:Int):=⟨(Xi x 0).toNat,by omega⟩
 have HK0:Hid (K0<fs.length∧(Xi x 0).toNat=K0):=by unfold Hid;omega
 obtain ⟨kb1,ko1,kcap1,ek1,hkb1,k41⟩:=hin.kids.get (j:=1) (by omega)
 injection ek1 with eb1 eb2 eb3
 injection eb1 with eb1
 injection eb1 with eb1 eb4 eb5
 clear eb2 eb3 eb5
 subst eb1 eb4
 obtain ⟨hq1a,hq1b⟩:=hx.kid 1 (by omega)
 obtain ⟨K1,hK1⟩:∃K1:Nat,Xi x 1=(K1:Int):=⟨(Xi x 1).toNat,by omega⟩
 have HK1:Hid (K1<fs.length∧(Xi x 1).toNat=K1):=by unfold Hid;omega
 have l0:w.cell? ⟨kb,ko,none⟩=some (.int .i64 (K0:Int)):=by rw[←hK0];unfold Xi;simpa using k4
 have l1:w.cell? ⟨kb,ko+1,none⟩=some (.int .i64 (K1:Int)):=by rw[←hK1];exact k41
 obtain ⟨W2,hW2⟩:∃W2,w.alloc (.cells #[.int .i64 x.kind, .string x.name, .int .i64 x.place, .slice aC x.cst.length cC, .slice aK x.names.length cK, .slice (some ⟨kb,ko,none⟩) x.kids.length cI] 84)=W2:=⟨_,rfl⟩
 obtain ⟨W3,hW3⟩:∃W3,W2.alloc (.cells #[] 25)=W3:=⟨_,rfl⟩
 have g2:W2.heap.size=w.heap.size+1:=by rw[←hW2];simp
 have g3:W3.heap.size=w.heap.size+2:=by rw[←hW3];simp[g2]
 have hb2:Below w.heap.size w W2:=by rw[←hW2];exact (Below.refl _ _).alloc (Nat.le_refl _) _
 have hb23:Below W2.heap.size W2 W3:=by rw[←hW3];exact (Below.refl _ _).alloc (Nat.le_refl _) _
 have hblk:W2.heap[w.heap.size]? =some (.cells #[.int .i64 x.kind, .string x.name, .int .i64 x.place, .slice aC x.cst.length cC, .slice aK x.names.length cK, .slice (some ⟨kb,ko,none⟩) x.kids.length cI] 84 (0,0)):=by rw[←hW2];exact heap_alloc_new w _
 have b5:=Xg hblk 5
 have b5':W2.cell? ⟨w.heap.size,5,none⟩=some (.slice (some ⟨kb,ko,none⟩) x.kids.length cI):=b5
 have hc0:W2.cell? ⟨kb,ko,none⟩=some (.int .i64 (K0:Int)):=(Xc hb2 (by omega)).trans l0
 have hc1:W2.cell? ⟨kb,ko+1,none⟩=some (.int .i64 (K1:Int)):=(Xc hb2 (by omega)).trans l1
 have y5:W3.cell? ⟨w.heap.size,5,none⟩=some (.slice (some ⟨kb,ko,none⟩) x.kids.length cI):=(Xc hb23 (by omega)).trans b5'
 have hc03:W3.cell? ⟨kb,ko,none⟩=some (.int .i64 (K0:Int)):=(Xc hb23 (by omega)).trans hc0
 have HV2:Hid (NR E W2 v ns):=hv.below hb2
 have HS3:Hid (SE B E fv fs fu 0 W3):=(hs.below hb2).below hb23
 have HV3:Hid (NR E W3 v ns):=HV2.out.below hb23
 have HBT:Hid (ButE E w W2):= .of_below hb2
 have HB3:=Xa hb23
 have HE:=Xa hE
 obtain ⟨R,hR⟩:∃R,Xq (Xf fs d) (Xi x 0) ns (fun a=>Xq (Xf fs d) (Xi x 1) ns (fun b=>Xv (Xs 19 a b) Xk)) (fu,[])=R:=⟨_,rfl⟩
 have HRE:=Xa hR
 rw[hR]
 obtain ⟨r0,hr0⟩:∃r0,Xf fs d K0 ns fu=r0:=⟨_,rfl⟩
 have HR0:=Xa hr0
 have HLE0:Hid (r0.fu≤fu):=by rw[Hid,←hr0];exact (Yr hok d).le _ _ _ hv.ok
 have HLE:Hid (∀n ns fu,okB ns=true→(Xf fs d n ns fu).fu≤fu):=(Yr hok d).le
 have HC:=Xa (Qf HO.out HK0.out.1 HS3.out HV3.out hfu (Below.refl _ _))
 rw[hr0] at HC
 have HLO:Hid (LR E W2.heap.size W3 (.slice (some ⟨w.heap.size+1,0,none⟩) 0 0) [] []):=by rw[Hid,←hW3,←g2];exact ⟨World.ownsRow_lit W2 #[] 0 (Nat.le_refl _) (by simp[maxLen]) rfl,by omega,fun j hj=>absurd hj (by simp)⟩
 have hkbE:kb≠E:=by omega
 have hlp:1<x.kids.length:=by omega
 have hlp2:(1:Int)<(x.kids.length:Int):=by omega
 have hlp3:0<x.kids.length:=by omega
 have hlp4:(0:Int)<(x.kids.length:Int):=by omega
 obtain ⟨i0,hi0,hz0,hs0,hy0⟩:=info_parts Qu
 obtain ⟨av,cv,rfl⟩:=hv.slice
 unfold Ya
 obtain ⟨KX,hKX⟩:∃KX,x.kind=KX:=⟨_,rfl⟩
 rw[hKX] at hW2⊢
 obtain ⟨LN,hLN⟩:∃LN,ns.length=LN:=⟨_,rfl⟩
 rw[hLN] at HC HV2 HV3⊢
 clear ho hx k hin hs hv hok hK0 hK1 k4 k41 l0 l1 hq0 hq1 hq1a hq1b hb2 hb23 hblk b5 hR hr0 h2k hKX hLN
 go_enter Tryz.func82,Tryz.ntmps82
 go_wp2_with fail
 refine HC.out.mono ?_
 rintro e w4 ⟨sv,xs,m,rfl,hs4,hb4,hl4,hm4,hM4⟩
 have HNW:=Xa (Kp (v:=ns) (h:=(fun a=>Xq (Xf fs d) (Xi x 1) ns (fun b=>Xv (Xs 19 a b) Xk))) (by rw[HK0.out.2];exact HR0.out) hm4 HRE.out)
 have hfu4:r0.fu≤d:=by have:=HLE0.out;omega
 have HLP:Hid (Loop B E fv fs d W2 sv xs m r0.c r0.fu (.slice (some ⟨w.heap.size+1,0,none⟩) 0 0) [] [] w4):=
  ⟨hs4, (ButE.of_below HB3.out).trans hb4, HLO.out.keep hb4, hl4.low HB3.out.size (by have := HE.out; omega), by
   cases e3:sv.ownBlock with
   |none=>exact .inl rfl
   |some y=>exact .inr (by have:=(hl4.row.lt _ e3).1;simp only[Value.ownBlock];intro e4;injection e4 with e4;omega),by simp,hfu4⟩
 obtain ⟨a4,c4,rfl⟩:=hl4.slice
 obtain ⟨M,hM⟩:∃M,m.length=M:=⟨_,rfl⟩
 have HMQ:=Xa hM
 have hMb:M≤20000000:=by omega
 have HG2:=Xa g2
 have HG3:=Xa g3
 have HBX:Hid (W2.cell? ⟨w.heap.size,5,none⟩=some (.slice (some ⟨kb,ko,none⟩) x.kids.length cI)):=b5'
 have HC1:=Xa hc1
 rw[hM] at HLP⊢
 clear hs4 hb4 hl4 hm4 hM4 hM g2 g3 y5 hW2 hW3 hc0 hc1 hc03 b5'
 go_wp2_with fail
 go_loopw [9,11,12,13] (fun o i _ _ wr=>∃(k:Nat) (c:Int) (fu:Nat) (oxs:List Value) (out:List (List VN)),k≤M∧i= .int .i64 k∧Hid (Now R (fun st=>Yd (Xo (fun a=>Xq (Xf fs d) (Xi x 1) ns (fun b=>Xv (Xs 19 a b) Xk)) (m.drop k) st) Xy) c fu out)∧Loop B E fv fs d W2 (.slice a4 M c4) xs m c fu o oxs out wr) (fun _ i _ _ _=>M-(intOf i).toNat)
 case atStart=>exact ⟨0,r0.c,r0.fu,[],[],Nat.zero_le _,rfl,HNW.out,HLP.out⟩
 case round =>
  obtain ⟨i,c,fu,oxs,out,hk,rfl,hnow,hlp⟩:=hrel
  obtain ⟨W0,rfl⟩:∃W0,W0=wr:=⟨_,rfl⟩
  have HLP:=Xa hlp
  obtain ⟨ao,co,rfl⟩:=hlp.lo.slice
  obtain ⟨_,_,q2,_,_⟩:=hlp.se.cells
  have zs:=hlp.but.size
  have y5:=hlp.but.cellE (by have:=HE.out;omega) HBX.out
  have hc1':=hlp.but.cellE hkbE HC1.out
  by_cases hlt:i<M
  ·have hltI : (i : Int) < (M : Int) := by omega
   by_cases h0:c=0
   ·subst h0
    obtain ⟨hnx,ho40⟩:=hnow.next rfl (by rw[HMQ.out];exact hlt)
    have HNX:=Xa hnx
    have HO40:=Xa ho40
    obtain ⟨r1,hr1⟩:∃r1,Xf fs d K1 ns fu=r1:=⟨_,rfl⟩
    have HR1:=Xa hr1
    have HCR:Hid (Calls Tryz.prog 35 #[.pointer (some ⟨E,0,none⟩), .int .i64 K1, .slice av LN cv] W0 (RunAns B E (100 *(d+1)) fv fs r1.c r1.l r1.fu W0)):=by
     rw[←hr1]
     exact Qf HO.out HK1.out.1 hlp.se (HV2.out.but hlp.but) hlp.fud (Below.refl _ _)
    have HLF:Hid (r1.fu≤d):=by have h1:=HLE.out K1 ns fu HOK.out;rw[hr1] at h1;exact Nat.le_trans h1 hlp.fud
    obtain ⟨b,ax,cx,rfl,hbb,hcA,hnr⟩:=hlp.la.cell (j:=i) (by rw[HMQ.out];exact hlt)
    obtain ⟨OL,hO⟩:∃OL,out.length=OL:=⟨_,rfl⟩
    have HOL:=Xa hO
    rw[hO] at HLP⊢
    clear hnow hlp hnx ho40 hnr hr1 hO hcA
    go_wp2_with fail
    refine HCR.out.mono ?_
    rintro e w5 ⟨sv5,xs5,m5,rfl,hs5,hb5,hl5,hm5,hM5⟩
    have HNI:=Xa (Us (R:=R) (k:=(fun st=>Yd (Xo (fun a=>Xq (Xf fs d) (Xi x 1) ns (fun b=>Xv (Xs 19 a b) Xk)) (m.drop (i+1)) st) Xy)) (h:=(fun b=>Xv (Xs 19 (Xl m i) b) Xk)) (n:=Xi x 1) (by rw[HK1.out.2];exact HR1.out) hm5 HO40.out HNX.out)
    have HSD:=Xa (Side.new HLP.out hl5 (by have:=HE.out;have:=HG2.out;omega))
    have HLP5:=Xa (HLP.out.keep hb5 hs5 HLF.out)
    obtain ⟨a5,c5,rfl⟩:=hl5.slice
    obtain ⟨M5,hM5q⟩:∃M5,m5.length=M5:=⟨_,rfl⟩
    have HM5:=Xa hM5q
    have hM5b:M5≤20000000:=by omega
    rw[hM5q] at HSD⊢
    clear hs5 hb5 hl5 hm5 hM5 hM5q
    go_wp2_with fail
    go_loopw [9,13] (fun o i2 wr=>∃(k:Nat) (c:Int) (fu:Nat) (oxs:List Value) (out:List (List VN)),k≤M5∧i2= .int .i64 k∧Hid (Now R (fun st=>Yd (Xo (fun b=>Xv (Xs 19 (Xl m i) b) Xk) (m5.drop k) st) (fun st=>Yd (Xo (fun a=>Xq (Xf fs d) (Xi x 1) ns (fun b=>Xv (Xs 19 a b) Xk)) (m.drop (i+1)) st) Xy)) c fu out)∧Loop B E fv fs d W2 (.slice (some ⟨b,0,none⟩) M c4) xs m c fu o oxs out wr∧Side E W2 (.slice a5 M5 c5) xs5 m5 o wr) (fun _ i2 _=>M5-(intOf i2).toNat)
    case atStart=>exact ⟨0,r1.c,r1.fu,oxs,out,Nat.zero_le _,rfl,HNI.out,HLP5.out,HSD.out⟩
    case round =>
     obtain ⟨k,c2,fu2,oxs2,out2,hk2,rfl,hnow2,hlp2',hsd2⟩:=hrel
     have HLP2:=Xa hlp2'
     have HSD2:=Xa hsd2
     obtain ⟨ao2,co2,rfl⟩:=hlp2'.lo.slice
     obtain ⟨_,_,q22,_,_⟩:=hlp2'.se.cells
     have zs2:=hlp2'.but.size
     by_cases hlt2:k<M5
     ·have hltI2:(k:Int)<(M5:Int):=by omega
      by_cases h02:c2=0
      ·subst h02
       obtain ⟨hnx2,ho402⟩:=hnow2.next rfl (by rw[HM5.out];exact hlt2)
       obtain ⟨b',ax2,cx2,ebb,hbb2,hcA2,hnrA⟩:=hlp2'.la.cell (j:=i) (by rw[HMQ.out];exact hlt)
       injection ebb with ebb
       injection ebb with ebb
       subst ebb
       obtain ⟨bB,bx,cy,rfl,hbbB,hcB,hnrB⟩:=hsd2.row.cell (j:=k) (by rw[HM5.out];exact hlt2)
       have HNA:=Xa hnrA
       have HNB:=Xa hnrB
       have HLF2:=Xa hlp2'.fud
       obtain ⟨r9,hr9⟩:∃r9,Xs 19 (Xl m i) (Xl m5 k)=r9:=⟨_,rfl⟩
       have HR9:=Xa hr9
       have HNR9:Hid (Now R (fun st=>Yd (Xo (fun b=>Xv (Xs 19 (Xl m i) b) Xk) (m5.drop (k+1)) st) (fun st=>Yd (Xo (fun a=>Xq (Xf fs d) (Xi x 1) ns (fun b=>Xv (Xs 19 a b) Xk)) (m.drop (i+1)) st) Xy)) (Y6 r9.1 (out2.length+(Y0 r9).length)) fu2 (out2++Y0 r9)):=Uq ho402 (by rw[hnx2,←hr9])
       have HCP:Hid (∀W,Below wr.heap.size wr W→Calls Tryz.prog 130 #[.slice ax2 (Xl m i).length cx2, .slice bx (Xl m5 k).length cy] W fun e w'=>e= .returned (.int .i64 (Yt (Xl m i) (Xl m5 k)))∧Below wr.heap.size wr w'):=fun W hb=>(Wu (hnrA.below hb) (hnrB.below hb)).mono fun e w' h=>⟨h.1,hb.trans (h.2.mono hb.size)⟩
       obtain ⟨od,hod⟩:∃od,Yt (Xl m i) (Xl m5 k)=od:=⟨_,rfl⟩
       have HOD:=Xa hod
       rw[hod] at HCP
       obtain ⟨LX,hLX⟩:∃LX,(Xl m i).length=LX:=⟨_,rfl⟩
       obtain ⟨LY,hLY⟩:∃LY,(Xl m5 k).length=LY:=⟨_,rfl⟩
       obtain ⟨OL2,hO2⟩:∃OL2,out2.length=OL2:=⟨_,rfl⟩
       have HOL2:=Xa hO2
       have hOL40:OL2≤40:=by omega
       rw[hLX] at hcA2 HCP HNA
       rw[hLY] at hcB HCP HNB
       rw[hO2] at HLP2 HSD2 HNR9⊢
       clear hnow2 hlp2' hsd2 hnx2 ho402 hnrA hnrB hr9 hLX hLY hO2 hod
       go_wp2_with fail
       go_region_law (refine Qh (by rfl) 130 _ _ _ _ (by rfl) (.slice ax2 LX cx2) (.slice bx LY cy) (by rfl) (by rfl) (Uo _ _) (HCP.out _ (by first|exact Below.refl _ _|exact (Below.refl _ _).drew)) ?_;rintro e w6 ⟨rfl,hb6⟩;have hcA6:=(Xc hb6 (X8 hcA2)).trans hcA2;have hcB6:=(Xc hb6 (X8 hcB)).trans hcB;refine ⟨_,rfl, ?_⟩)
       all_goals
        have HLP6:=Xa (HLP2.out.keep (.of_below hb6) (HLP2.out.se.below hb6) HLF2.out)
        have HSD6:=Xa (HSD2.out.keep (.of_below hb6))
        have HNA6:=Xa (HNA.out.below hb6)
        have HNB6:=Xa (HNB.out.below hb6)
        have z6:=hb6.size
        clear hb6
        have HEB:Hid (r9=(0,Qd (decide (od<0)))):=by
         rw[Hid,←HR9.out]
         unfold Xs Xb4
         rw[if_neg (by decide),if_neg (by decide),HOD.out]
         rw[if_neg (by decide),if_neg (by decide),if_pos rfl]
        have HMB:=Xa (Xao E (decide (od<0)) w6 (by have:=HE.out;have:=HG2.out;omega))
        obtain ⟨nb,hnb⟩:∃nb,Qd (decide (od<0))=nb:=⟨_,rfl⟩
        have HNR10:Hid (Now R (fun st=>Yd (Xo (fun b=>Xv (Xs 19 (Xl m i) b) Xk) (m5.drop (k+1)) st) (fun st=>Yd (Xo (fun a=>Xq (Xf fs d) (Xi x 1) ns (fun b=>Xv (Xs 19 a b) Xk)) (m.drop (i+1)) st) Xy)) (Y6 0 (OL2+1)) fu2 (out2++ [nb])):=by
         have h1:=HNR9.out
         rw[HEB.out,hnb] at h1
         exact h1
        rw[hnb] at HMB
        have hnb1:nb.length=1:=by rw[←hnb];rfl
        clear hnb
        go_wp2_with fail
        refine HMB.out.mono ?_
        rintro e w7 ⟨u7,rfl,⟨a7,c7,rfl⟩,hnr7,hb7⟩
        rw[hnb1] at hnr7⊢
        have hlp7:=HLP6.out.keep (.of_below hb7) (HLP6.out.se.below hb7) HLF2.out
        have hsd7:=HSD6.out.keep (.of_below hb7)
        have hrow7:=hlp7.lo.row
        rw[HOL2.out] at hrow7
        have hz7:=hlp7.but.size
        clear hnb1
        go_wp2_with (at_builtin;refine wpList_append_own_at _ rfl _ _ 28 rfl W2.heap.size 25 i0 (.slice none 0 0) 1 24 Tryz.underlying28 hi0 hz0 hs0 hy0 rfl (by decide) _ OL2 oxs2 rfl (hrow7.alloc _) ⟨w7.heap.size,0,none⟩ 1 1 [.slice a7 1 c7] rfl rfl ?c1 ?c2 ?c3 ?c4 ?c5 ?_)
        case c1=>exact cell_one_new _ _ _
        case c2=>intro u hu;simp at hu;subst hu;rfl
        case c3=>unfold maxLen;omega
        case c4=>omega
        case c5=>simp;omega
        intro v9 w9 hown9 hg9 _ hat9
        have hbA:Below w7.heap.size w7 (w7.alloc (.cells #[.slice a7 1 c7] 25)):=(Below.refl _ _).alloc (Nat.le_refl _) _
        have hlpA:=hlp7.keep (.of_below hbA) (hlp7.se.below hbA) HLF2.out
        have hsdA:=hsd7.keep (.of_below hbA)
        have HSD9:=Xa (hsdA.app hlpA.lo hg9 (by simpa using hat9))
        rw[←HOL2.out] at hown9
        have HLP9:=Xa (hlpA.app (xs5:= [.slice a7 1 c7]) (m5:= [nb]) rfl (Xdi (hnr7.below hbA)) hown9 hg9 (by simpa using hat9) (by rw[HOL2.out];simp;omega))
        obtain ⟨a9,c9,e9⟩:=Xj hown9
        rw[HOL2.out] at e9
        obtain ⟨OL9,hO9⟩:∃OL9,OL2+1=OL9:=⟨_,rfl⟩
        rw[hO9] at e9 HNR10
        subst e9
        clear hown9 hg9 hat9 hlp7 hsd7 hlpA hsdA hrow7 hbA hnr7 hb7 hO9
        go_wp2_with fail
        refine (Zc a9 OL9 c9 HLP9.out.se).mono ?_
        rintro e w10 ⟨rfl,hs10,hb10⟩
        have HLP10:=Xa (HLP9.out.keep hb10 hs10 HLF2.out)
        have HSD10:=Xa (HSD9.out.keep hb10)
        clear hs10 hb10
        go_wp2_with fail
        go_roundw
        case rel=>exact ⟨k+1,_,_,_,_,by omega,by go_num,HNR10.out,HLP10.out,HSD10.out⟩
        case measure=>simp[intOf];omega
      ·have q0:(c2==0)=false:=by simpa using h02
       have HNO:=Xa (hnow2.dead h02 (fun st=>Yd (Xo (fun a=>Xq (Xf fs d) (Xi x 1) ns (fun b=>Xv (Xs 19 a b) Xk)) (m.drop (i+1)) st) Xy) out2)
       clear h02
       clear hnow2 hlp2' hsd2
       go_wp2_with fail
       go_roundw
       case rel=>exact ⟨i+1,_,_,_,_,by omega,by go_num,HNO.out,HLP2.out⟩
       case measure=>simp[intOf];omega
     ·obtain rfl:k=M5:=by omega
      have HNO:=Xa (hnow2.over (by rw[HM5.out];exact Nat.le_refl _))
      clear hnow2 hlp2' hsd2
      go_wp2_with fail
      go_roundw
      case rel=>exact ⟨i+1,_,_,_,_,by omega,by go_num,HNO.out,HLP2.out⟩
      case measure=>simp[intOf];omega
   ·have q0:(c==0)=false:=by simpa using h0
    have HNP:Hid (Now R Xy c fu out):=hnow.dead h0 _ _
    have HFW:Hid (out.length≤100 *(d+2)):=by have:=HLP.out.few;unfold Hid;omega
    obtain ⟨OL,hO⟩:∃OL,out.length=OL:=⟨_,rfl⟩
    have HOL:=Xa hO
    rw[hO] at HLP⊢
    clear h0
    clear hnow hlp hO
    go_wp2_with fail
    go_ret
    exact ⟨.slice ao OL co,oxs,out,c,fu,rfl,HLP.out.se,HBT.out.trans HLP.out.but,HLP.out.lo.low (by have:=HG2.out;omega) HE.out,HNP.out,HFW.out⟩
  ·obtain rfl:i=M:=by omega
   have HNP:Hid (Now R Xy c fu out):=hnow.over (by rw[HMQ.out];exact Nat.le_refl _)
   have HFW:Hid (out.length≤100 *(d+2)):=by have:=HLP.out.few;unfold Hid;omega
   obtain ⟨OL,hO⟩:∃OL,out.length=OL:=⟨_,rfl⟩
   have HOL:=Xa hO
   rw[hO] at HLP⊢
   clear hnow hlp hO
   go_wp2_with fail
   go_ret
   exact ⟨.slice ao OL co,oxs,out,c,fu,rfl,HLP.out.se,HBT.out.trans HLP.out.but,HLP.out.lo.low (by have:=HG2.out;omega) HE.out,HNP.out,HFW.out⟩

set_option maxRecDepth 100000 in
theorem X4s {B E d fu : Nat} {fv v kc kn ki : Value} {fs : List FN} {x : FN} {ns : List VN} {w : World} (hok : okF fs = true) (ho : Zs B E fv fs d) (hx : NodeOk fs x) (k : x.kind = 20) (hin : FNodeIn B w x kc kn ki) (hs : SE B E fv fs fu 0 w) (hv : NR E w v ns) (hfu : fu ≤ d) (hd : d ≤ 100000) :
  Calls Tryz.prog 82 #[.pointer (some ⟨E,0,none⟩), .int .i64 20,Ya x kc kn ki,v] w (Xa0 B E (100 *(d+2)) fv fs (Xq (Xf fs d) (Xi x 0) ns (fun a=>Xq (Xf fs d) (Xi x 1) ns (fun b=>Xv (Xs 20 a b) Xk)) (fu,[])) w):=by
 have HOK:=Xa hv.ok
 have HO:=Xa ho
 have hBE:=hs.hBE
 have hE:=hs.lt
 have h2k:=hx.two (by omega)
 obtain ⟨_,aC,cC,rfl,_⟩:=id hin.cst
 obtain ⟨_,_,aK,cK,rfl,_⟩:=id hin.names
 obtain ⟨_,_,aI,cI,rfl,_⟩:=id hin.kids
 obtain ⟨kb,ko,kcap,ek,hkb,k4⟩:=hin.kids.get (j:=0) (by omega)
 injection ek with ek1 ek2 ek3
 subst ek1 ek3
 obtain ⟨hq0,hq1⟩:=hx.kid 0 (by omega)
 obtain ⟨K0,hK0⟩:∃K0:Nat,Xi x 0=(K0:Int):=⟨(Xi x 0).toNat,by omega⟩
 have HK0:Hid (K0<fs.length∧(Xi x 0).toNat=K0):=by unfold Hid;omega
 obtain ⟨kb1,ko1,kcap1,ek1,hkb1,k41⟩:=hin.kids.get (j:=1) (by omega)
 injection ek1 with eb1 eb2 eb3
 injection eb1 with eb1
 injection eb1 with eb1 eb4 eb5
 clear eb2 eb3 eb5
 subst eb1 eb4
 obtain ⟨hq1a,hq1b⟩:=hx.kid 1 (by omega)
 obtain ⟨K1,hK1⟩:∃K1:Nat,Xi x 1=(K1:Int):=⟨(Xi x 1).toNat,by omega⟩
 have HK1:Hid (K1<fs.length∧(Xi x 1).toNat=K1):=by unfold Hid;omega
 have l0:w.cell? ⟨kb,ko,none⟩=some (.int .i64 (K0:Int)):=by rw[←hK0];unfold Xi;simpa using k4
 have l1:w.cell? ⟨kb,ko+1,none⟩=some (.int .i64 (K1:Int)):=by rw[←hK1];exact k41
 obtain ⟨W2,hW2⟩:∃W2,w.alloc (.cells #[.int .i64 x.kind, .string x.name, .int .i64 x.place, .slice aC x.cst.length cC, .slice aK x.names.length cK, .slice (some ⟨kb,ko,none⟩) x.kids.length cI] 84)=W2:=⟨_,rfl⟩
 obtain ⟨W3,hW3⟩:∃W3,W2.alloc (.cells #[] 25)=W3:=⟨_,rfl⟩
 have g2:W2.heap.size=w.heap.size+1:=by rw[←hW2];simp
 have g3:W3.heap.size=w.heap.size+2:=by rw[←hW3];simp[g2]
 have hb2:Below w.heap.size w W2:=by rw[←hW2];exact (Below.refl _ _).alloc (Nat.le_refl _) _
 have hb23:Below W2.heap.size W2 W3:=by rw[←hW3];exact (Below.refl _ _).alloc (Nat.le_refl _) _
 have hblk:W2.heap[w.heap.size]? =some (.cells #[.int .i64 x.kind, .string x.name, .int .i64 x.place, .slice aC x.cst.length cC, .slice aK x.names.length cK, .slice (some ⟨kb,ko,none⟩) x.kids.length cI] 84 (0,0)):=by rw[←hW2];exact heap_alloc_new w _
 have b5:=Xg hblk 5
 have b5':W2.cell? ⟨w.heap.size,5,none⟩=some (.slice (some ⟨kb,ko,none⟩) x.kids.length cI):=b5
 have hc0:W2.cell? ⟨kb,ko,none⟩=some (.int .i64 (K0:Int)):=(Xc hb2 (by omega)).trans l0
 have hc1:W2.cell? ⟨kb,ko+1,none⟩=some (.int .i64 (K1:Int)):=(Xc hb2 (by omega)).trans l1
 have y5:W3.cell? ⟨w.heap.size,5,none⟩=some (.slice (some ⟨kb,ko,none⟩) x.kids.length cI):=(Xc hb23 (by omega)).trans b5'
 have hc03:W3.cell? ⟨kb,ko,none⟩=some (.int .i64 (K0:Int)):=(Xc hb23 (by omega)).trans hc0
 have HV2:Hid (NR E W2 v ns):=hv.below hb2
 have HS3:Hid (SE B E fv fs fu 0 W3):=(hs.below hb2).below hb23
 have HV3:Hid (NR E W3 v ns):=HV2.out.below hb23
 have HBT:Hid (ButE E w W2):= .of_below hb2
 have HB3:=Xa hb23
 have HE:=Xa hE
 obtain ⟨R,hR⟩:∃R,Xq (Xf fs d) (Xi x 0) ns (fun a=>Xq (Xf fs d) (Xi x 1) ns (fun b=>Xv (Xs 20 a b) Xk)) (fu,[])=R:=⟨_,rfl⟩
 have HRE:=Xa hR
 rw[hR]
 obtain ⟨r0,hr0⟩:∃r0,Xf fs d K0 ns fu=r0:=⟨_,rfl⟩
 have HR0:=Xa hr0
 have HLE0:Hid (r0.fu≤fu):=by rw[Hid,←hr0];exact (Yr hok d).le _ _ _ hv.ok
 have HLE:Hid (∀n ns fu,okB ns=true→(Xf fs d n ns fu).fu≤fu):=(Yr hok d).le
 have HC:=Xa (Qf HO.out HK0.out.1 HS3.out HV3.out hfu (Below.refl _ _))
 rw[hr0] at HC
 have HLO:Hid (LR E W2.heap.size W3 (.slice (some ⟨w.heap.size+1,0,none⟩) 0 0) [] []):=by rw[Hid,←hW3,←g2];exact ⟨World.ownsRow_lit W2 #[] 0 (Nat.le_refl _) (by simp[maxLen]) rfl,by omega,fun j hj=>absurd hj (by simp)⟩
 have hkbE:kb≠E:=by omega
 have hlp:1<x.kids.length:=by omega
 have hlp2:(1:Int)<(x.kids.length:Int):=by omega
 have hlp3:0<x.kids.length:=by omega
 have hlp4:(0:Int)<(x.kids.length:Int):=by omega
 obtain ⟨i0,hi0,hz0,hs0,hy0⟩:=info_parts Qu
 obtain ⟨av,cv,rfl⟩:=hv.slice
 unfold Ya
 obtain ⟨KX,hKX⟩:∃KX,x.kind=KX:=⟨_,rfl⟩
 rw[hKX] at hW2⊢
 obtain ⟨LN,hLN⟩:∃LN,ns.length=LN:=⟨_,rfl⟩
 rw[hLN] at HC HV2 HV3⊢
 clear ho hx k hin hs hv hok hK0 hK1 k4 k41 l0 l1 hq0 hq1 hq1a hq1b hb2 hb23 hblk b5 hR hr0 h2k hKX hLN
 go_enter Tryz.func82,Tryz.ntmps82
 go_wp2_with fail
 refine HC.out.mono ?_
 rintro e w4 ⟨sv,xs,m,rfl,hs4,hb4,hl4,hm4,hM4⟩
 have HNW:=Xa (Kp (v:=ns) (h:=(fun a=>Xq (Xf fs d) (Xi x 1) ns (fun b=>Xv (Xs 20 a b) Xk))) (by rw[HK0.out.2];exact HR0.out) hm4 HRE.out)
 have hfu4:r0.fu≤d:=by have:=HLE0.out;omega
 have HLP:Hid (Loop B E fv fs d W2 sv xs m r0.c r0.fu (.slice (some ⟨w.heap.size+1,0,none⟩) 0 0) [] [] w4):=
  ⟨hs4, (ButE.of_below HB3.out).trans hb4, HLO.out.keep hb4, hl4.low HB3.out.size (by have := HE.out; omega), by
   cases e3:sv.ownBlock with
   |none=>exact .inl rfl
   |some y=>exact .inr (by have:=(hl4.row.lt _ e3).1;simp only[Value.ownBlock];intro e4;injection e4 with e4;omega),by simp,hfu4⟩
 obtain ⟨a4,c4,rfl⟩:=hl4.slice
 obtain ⟨M,hM⟩:∃M,m.length=M:=⟨_,rfl⟩
 have HMQ:=Xa hM
 have hMb:M≤20000000:=by omega
 have HG2:=Xa g2
 have HG3:=Xa g3
 have HBX:Hid (W2.cell? ⟨w.heap.size,5,none⟩=some (.slice (some ⟨kb,ko,none⟩) x.kids.length cI)):=b5'
 have HC1:=Xa hc1
 rw[hM] at HLP⊢
 clear hs4 hb4 hl4 hm4 hM4 hM g2 g3 y5 hW2 hW3 hc0 hc1 hc03 b5'
 go_wp2_with fail
 go_loopw [9,11,12,13] (fun o i _ _ wr=>∃(k:Nat) (c:Int) (fu:Nat) (oxs:List Value) (out:List (List VN)),k≤M∧i= .int .i64 k∧Hid (Now R (fun st=>Yd (Xo (fun a=>Xq (Xf fs d) (Xi x 1) ns (fun b=>Xv (Xs 20 a b) Xk)) (m.drop k) st) Xy) c fu out)∧Loop B E fv fs d W2 (.slice a4 M c4) xs m c fu o oxs out wr) (fun _ i _ _ _=>M-(intOf i).toNat)
 case atStart=>exact ⟨0,r0.c,r0.fu,[],[],Nat.zero_le _,rfl,HNW.out,HLP.out⟩
 case round =>
  obtain ⟨i,c,fu,oxs,out,hk,rfl,hnow,hlp⟩:=hrel
  obtain ⟨W0,rfl⟩:∃W0,W0=wr:=⟨_,rfl⟩
  have HLP:=Xa hlp
  obtain ⟨ao,co,rfl⟩:=hlp.lo.slice
  obtain ⟨_,_,q2,_,_⟩:=hlp.se.cells
  have zs:=hlp.but.size
  have y5:=hlp.but.cellE (by have:=HE.out;omega) HBX.out
  have hc1':=hlp.but.cellE hkbE HC1.out
  by_cases hlt:i<M
  ·have hltI : (i : Int) < (M : Int) := by omega
   by_cases h0:c=0
   ·subst h0
    obtain ⟨hnx,ho40⟩:=hnow.next rfl (by rw[HMQ.out];exact hlt)
    have HNX:=Xa hnx
    have HO40:=Xa ho40
    obtain ⟨r1,hr1⟩:∃r1,Xf fs d K1 ns fu=r1:=⟨_,rfl⟩
    have HR1:=Xa hr1
    have HCR:Hid (Calls Tryz.prog 35 #[.pointer (some ⟨E,0,none⟩), .int .i64 K1, .slice av LN cv] W0 (RunAns B E (100 *(d+1)) fv fs r1.c r1.l r1.fu W0)):=by
     rw[←hr1]
     exact Qf HO.out HK1.out.1 hlp.se (HV2.out.but hlp.but) hlp.fud (Below.refl _ _)
    have HLF:Hid (r1.fu≤d):=by have h1:=HLE.out K1 ns fu HOK.out;rw[hr1] at h1;exact Nat.le_trans h1 hlp.fud
    obtain ⟨b,ax,cx,rfl,hbb,hcA,hnr⟩:=hlp.la.cell (j:=i) (by rw[HMQ.out];exact hlt)
    obtain ⟨OL,hO⟩:∃OL,out.length=OL:=⟨_,rfl⟩
    have HOL:=Xa hO
    rw[hO] at HLP⊢
    clear hnow hlp hnx ho40 hnr hr1 hO hcA
    go_wp2_with fail
    refine HCR.out.mono ?_
    rintro e w5 ⟨sv5,xs5,m5,rfl,hs5,hb5,hl5,hm5,hM5⟩
    have HNI:=Xa (Us (R:=R) (k:=(fun st=>Yd (Xo (fun a=>Xq (Xf fs d) (Xi x 1) ns (fun b=>Xv (Xs 20 a b) Xk)) (m.drop (i+1)) st) Xy)) (h:=(fun b=>Xv (Xs 20 (Xl m i) b) Xk)) (n:=Xi x 1) (by rw[HK1.out.2];exact HR1.out) hm5 HO40.out HNX.out)
    have HSD:=Xa (Side.new HLP.out hl5 (by have:=HE.out;have:=HG2.out;omega))
    have HLP5:=Xa (HLP.out.keep hb5 hs5 HLF.out)
    obtain ⟨a5,c5,rfl⟩:=hl5.slice
    obtain ⟨M5,hM5q⟩:∃M5,m5.length=M5:=⟨_,rfl⟩
    have HM5:=Xa hM5q
    have hM5b:M5≤20000000:=by omega
    rw[hM5q] at HSD⊢
    clear hs5 hb5 hl5 hm5 hM5 hM5q
    go_wp2_with fail
    go_loopw [9,13] (fun o i2 wr=>∃(k:Nat) (c:Int) (fu:Nat) (oxs:List Value) (out:List (List VN)),k≤M5∧i2= .int .i64 k∧Hid (Now R (fun st=>Yd (Xo (fun b=>Xv (Xs 20 (Xl m i) b) Xk) (m5.drop k) st) (fun st=>Yd (Xo (fun a=>Xq (Xf fs d) (Xi x 1) ns (fun b=>Xv (Xs 20 a b) Xk)) (m.drop (i+1)) st) Xy)) c fu out)∧Loop B E fv fs d W2 (.slice (some ⟨b,0,none⟩) M c4) xs m c fu o oxs out wr∧Side E W2 (.slice a5 M5 c5) xs5 m5 o wr) (fun _ i2 _=>M5-(intOf i2).toNat)
    case atStart=>exact ⟨0,r1.c,r1.fu,oxs,out,Nat.zero_le _,rfl,HNI.out,HLP5.out,HSD.out⟩
    case round =>
     obtain ⟨k,c2,fu2,oxs2,out2,hk2,rfl,hnow2,hlp2',hsd2⟩:=hrel
     have HLP2:=Xa hlp2'
     have HSD2:=Xa hsd2
     obtain ⟨ao2,co2,rfl⟩:=hlp2'.lo.slice
     obtain ⟨_,_,q22,_,_⟩:=hlp2'.se.cells
     have zs2:=hlp2'.but.size
     by_cases hlt2:k<M5
     ·have hltI2:(k:Int)<(M5:Int):=by omega
      by_cases h02:c2=0
      ·subst h02
       obtain ⟨hnx2,ho402⟩:=hnow2.next rfl (by rw[HM5.out];exact hlt2)
       obtain ⟨b',ax2,cx2,ebb,hbb2,hcA2,hnrA⟩:=hlp2'.la.cell (j:=i) (by rw[HMQ.out];exact hlt)
       injection ebb with ebb
       injection ebb with ebb
       subst ebb
       obtain ⟨bB,bx,cy,rfl,hbbB,hcB,hnrB⟩:=hsd2.row.cell (j:=k) (by rw[HM5.out];exact hlt2)
       have HNA:=Xa hnrA
       have HNB:=Xa hnrB
       have HLF2:=Xa hlp2'.fud
       obtain ⟨r9,hr9⟩:∃r9,Xs 20 (Xl m i) (Xl m5 k)=r9:=⟨_,rfl⟩
       have HR9:=Xa hr9
       have HNR9:Hid (Now R (fun st=>Yd (Xo (fun b=>Xv (Xs 20 (Xl m i) b) Xk) (m5.drop (k+1)) st) (fun st=>Yd (Xo (fun a=>Xq (Xf fs d) (Xi x 1) ns (fun b=>Xv (Xs 20 a b) Xk)) (m.drop (i+1)) st) Xy)) (Y6 r9.1 (out2.length+(Y0 r9).length)) fu2 (out2++Y0 r9)):=Uq ho402 (by rw[hnx2,←hr9])
       have HCP:Hid (∀W,Below wr.heap.size wr W→Calls Tryz.prog 130 #[.slice ax2 (Xl m i).length cx2, .slice bx (Xl m5 k).length cy] W fun e w'=>e= .returned (.int .i64 (Yt (Xl m i) (Xl m5 k)))∧Below wr.heap.size wr w'):=fun W hb=>(Wu (hnrA.below hb) (hnrB.below hb)).mono fun e w' h=>⟨h.1,hb.trans (h.2.mono hb.size)⟩
       obtain ⟨od,hod⟩:∃od,Yt (Xl m i) (Xl m5 k)=od:=⟨_,rfl⟩
       have HOD:=Xa hod
       rw[hod] at HCP
       obtain ⟨LX,hLX⟩:∃LX,(Xl m i).length=LX:=⟨_,rfl⟩
       obtain ⟨LY,hLY⟩:∃LY,(Xl m5 k).length=LY:=⟨_,rfl⟩
       obtain ⟨OL2,hO2⟩:∃OL2,out2.length=OL2:=⟨_,rfl⟩
       have HOL2:=Xa hO2
       have hOL40:OL2≤40:=by omega
       rw[hLX] at hcA2 HCP HNA
       rw[hLY] at hcB HCP HNB
       rw[hO2] at HLP2 HSD2 HNR9⊢
       clear hnow2 hlp2' hsd2 hnx2 ho402 hnrA hnrB hr9 hLX hLY hO2 hod
       go_wp2_with fail
       go_region_law (refine Qh (by rfl) 130 _ _ _ _ (by rfl) (.slice ax2 LX cx2) (.slice bx LY cy) (by rfl) (by rfl) (Uo _ _) (HCP.out _ (by first|exact Below.refl _ _|exact (Below.refl _ _).drew)) ?_;rintro e w6 ⟨rfl,hb6⟩;have hcA6:=(Xc hb6 (X8 hcA2)).trans hcA2;have hcB6:=(Xc hb6 (X8 hcB)).trans hcB;refine ⟨_,rfl, ?_⟩)
       all_goals
        have HLP6:=Xa (HLP2.out.keep (.of_below hb6) (HLP2.out.se.below hb6) HLF2.out)
        have HSD6:=Xa (HSD2.out.keep (.of_below hb6))
        have HNA6:=Xa (HNA.out.below hb6)
        have HNB6:=Xa (HNB.out.below hb6)
        have z6:=hb6.size
        clear hb6
        have HEB:Hid (r9=(0,Qd (decide (od≤0)))):=by
         rw[Hid,←HR9.out]
         unfold Xs Xb4
         rw[if_neg (by decide),if_neg (by decide),HOD.out]
         rw[if_neg (by decide),if_neg (by decide),if_neg (by decide)]
        have HMB:=Xa (Xao E (decide (od≤0)) w6 (by have:=HE.out;have:=HG2.out;omega))
        obtain ⟨nb,hnb⟩:∃nb,Qd (decide (od≤0))=nb:=⟨_,rfl⟩
        have HNR10:Hid (Now R (fun st=>Yd (Xo (fun b=>Xv (Xs 20 (Xl m i) b) Xk) (m5.drop (k+1)) st) (fun st=>Yd (Xo (fun a=>Xq (Xf fs d) (Xi x 1) ns (fun b=>Xv (Xs 20 a b) Xk)) (m.drop (i+1)) st) Xy)) (Y6 0 (OL2+1)) fu2 (out2++ [nb])):=by
         have h1:=HNR9.out
         rw[HEB.out,hnb] at h1
         exact h1
        rw[hnb] at HMB
        have hnb1:nb.length=1:=by rw[←hnb];rfl
        clear hnb
        go_wp2_with fail
        refine HMB.out.mono ?_
        rintro e w7 ⟨u7,rfl,⟨a7,c7,rfl⟩,hnr7,hb7⟩
        rw[hnb1] at hnr7⊢
        have hlp7:=HLP6.out.keep (.of_below hb7) (HLP6.out.se.below hb7) HLF2.out
        have hsd7:=HSD6.out.keep (.of_below hb7)
        have hrow7:=hlp7.lo.row
        rw[HOL2.out] at hrow7
        have hz7:=hlp7.but.size
        clear hnb1
        go_wp2_with (at_builtin;refine wpList_append_own_at _ rfl _ _ 28 rfl W2.heap.size 25 i0 (.slice none 0 0) 1 24 Tryz.underlying28 hi0 hz0 hs0 hy0 rfl (by decide) _ OL2 oxs2 rfl (hrow7.alloc _) ⟨w7.heap.size,0,none⟩ 1 1 [.slice a7 1 c7] rfl rfl ?c1 ?c2 ?c3 ?c4 ?c5 ?_)
        case c1=>exact cell_one_new _ _ _
        case c2=>intro u hu;simp at hu;subst hu;rfl
        case c3=>unfold maxLen;omega
        case c4=>omega
        case c5=>simp;omega
        intro v9 w9 hown9 hg9 _ hat9
        have hbA:Below w7.heap.size w7 (w7.alloc (.cells #[.slice a7 1 c7] 25)):=(Below.refl _ _).alloc (Nat.le_refl _) _
        have hlpA:=hlp7.keep (.of_below hbA) (hlp7.se.below hbA) HLF2.out
        have hsdA:=hsd7.keep (.of_below hbA)
        have HSD9:=Xa (hsdA.app hlpA.lo hg9 (by simpa using hat9))
        rw[←HOL2.out] at hown9
        have HLP9:=Xa (hlpA.app (xs5:= [.slice a7 1 c7]) (m5:= [nb]) rfl (Xdi (hnr7.below hbA)) hown9 hg9 (by simpa using hat9) (by rw[HOL2.out];simp;omega))
        obtain ⟨a9,c9,e9⟩:=Xj hown9
        rw[HOL2.out] at e9
        obtain ⟨OL9,hO9⟩:∃OL9,OL2+1=OL9:=⟨_,rfl⟩
        rw[hO9] at e9 HNR10
        subst e9
        clear hown9 hg9 hat9 hlp7 hsd7 hlpA hsdA hrow7 hbA hnr7 hb7 hO9
        go_wp2_with fail
        refine (Zc a9 OL9 c9 HLP9.out.se).mono ?_
        rintro e w10 ⟨rfl,hs10,hb10⟩
        have HLP10:=Xa (HLP9.out.keep hb10 hs10 HLF2.out)
        have HSD10:=Xa (HSD9.out.keep hb10)
        clear hs10 hb10
        go_wp2_with fail
        go_roundw
        case rel=>exact ⟨k+1,_,_,_,_,by omega,by go_num,HNR10.out,HLP10.out,HSD10.out⟩
        case measure=>simp[intOf];omega
      ·have q0:(c2==0)=false:=by simpa using h02
       have HNO:=Xa (hnow2.dead h02 (fun st=>Yd (Xo (fun a=>Xq (Xf fs d) (Xi x 1) ns (fun b=>Xv (Xs 20 a b) Xk)) (m.drop (i+1)) st) Xy) out2)
       clear h02
       clear hnow2 hlp2' hsd2
       go_wp2_with fail
       go_roundw
       case rel=>exact ⟨i+1,_,_,_,_,by omega,by go_num,HNO.out,HLP2.out⟩
       case measure=>simp[intOf];omega
     ·obtain rfl:k=M5:=by omega
      have HNO:=Xa (hnow2.over (by rw[HM5.out];exact Nat.le_refl _))
      clear hnow2 hlp2' hsd2
      go_wp2_with fail
      go_roundw
      case rel=>exact ⟨i+1,_,_,_,_,by omega,by go_num,HNO.out,HLP2.out⟩
      case measure=>simp[intOf];omega
   ·have q0:(c==0)=false:=by simpa using h0
    have HNP:Hid (Now R Xy c fu out):=hnow.dead h0 _ _
    have HFW:Hid (out.length≤100 *(d+2)):=by have:=HLP.out.few;unfold Hid;omega
    obtain ⟨OL,hO⟩:∃OL,out.length=OL:=⟨_,rfl⟩
    have HOL:=Xa hO
    rw[hO] at HLP⊢
    clear h0
    clear hnow hlp hO
    go_wp2_with fail
    go_ret
    exact ⟨.slice ao OL co,oxs,out,c,fu,rfl,HLP.out.se,HBT.out.trans HLP.out.but,HLP.out.lo.low (by have:=HG2.out;omega) HE.out,HNP.out,HFW.out⟩
  ·obtain rfl:i=M:=by omega
   have HNP:Hid (Now R Xy c fu out):=hnow.over (by rw[HMQ.out];exact Nat.le_refl _)
   have HFW:Hid (out.length≤100 *(d+2)):=by have:=HLP.out.few;unfold Hid;omega
   obtain ⟨OL,hO⟩:∃OL,out.length=OL:=⟨_,rfl⟩
   have HOL:=Xa hO
   rw[hO] at HLP⊢
   clear hnow hlp hO
   go_wp2_with fail
   go_ret
   exact ⟨.slice ao OL co,oxs,out,c,fu,rfl,HLP.out.se,HBT.out.trans HLP.out.but,HLP.out.lo.low (by have:=HG2.out;omega) HE.out,HNP.out,HFW.out⟩
end Go.Proofs.YtdjddneidbddpaaGreatDoor
