import Derived.Test.YtdjddneidbddpaaGreatDoorSeM
import Derived.Test.YtdjddneidbddpaaGreatDoorSeQ
import Derived.Test.YtdjddneidbddpaaGreatDoorSSort
import Derived.Test.YtdjddneidbddpaaGreatDoorIPlsT
import Derived.Test.YtdjddneidbddpaaGreatDoorEvZ
import Derived.Deep.RegionWith
import Derived.Test.YtdjddneidbddpaaGreatDoorByP
import Derived.Test.YtdjddneidbddpaaGreatDoorPsZ
import Derived.Test.YtdjddneidbddpaaGreatDoorEqSS
namespace Go.Proofs.YtdjddneidbddpaaGreatDoor
set_option linter.unusedSectionVars false
set_option maxRecDepth 100000
set_option maxHeartbeats 25600000
open Go.RowKit
set_option linter.unusedSimpArgs false
set_option linter.unusedVariables false
abbrev Ym (x:FN) (kc kn ki:Value):Value:= .agg #[.int .i64 x.kind, .string x.name, .int .i64 x.place,kc,kn,ki]
theorem X04 {cs:List VN} (hok:okB cs=true) (hl:cs.length=1) {lo:Nat} {w:World} {v:Value} (hlo:lo<=w.heap.size) (h:ValIs lo w.heap.size w cs 1 0 v):Rep w cs v:=by
 obtain ⟨c,d,_,f⟩:=Xm hok
 have g:=ValIs.tree hlo d f c.2 (by omega) h
 have b:=Ku hok
 rw[hl] at b
 exact Rep.of g b hok
theorem X05 {fs:List FN} {x:FN} (hx:NodeOk fs x) (B:Nat) (kc kn ki v:Value) (ns:List VN) (w:World) (hn:FNodeIn B w x kc kn ki) (hB:B<=w.heap.size) (hv:Rep w ns v) (hE:Errs2 w) (hk:x.kind=1\/x.kind=2\/x.kind=3\/x.kind=5\/x.kind=11\/x.kind=12\/x.kind=13):
  Calls Tryz.prog 119 #[Ym x kc kn ki,v] w (Jd (Yp x ns) w):=by
 replace hk:x.kind=1\/x.kind=5\/x.kind=13\/x.kind=2\/x.kind=3\/x.kind=11\/x.kind=12:=by clear hn hv hE hB;omega
 have HN:=Xa hn
 have P:=Xa hv
 have HE:=Xa hE
 obtain ⟨_,aC,cC,rfl,_⟩:=hn.cst
 obtain ⟨_,_,aK,cK,rfl,_⟩:=hn.names
 obtain ⟨_,_,aI,cI,rfl,_⟩:=hn.kids
 obtain ⟨ty,y,rfl⟩:=hv.iface
 obtain ⟨LC,o⟩:∃LC,x.cst.length=LC:=⟨_,rfl⟩
 obtain ⟨LN,bg⟩:∃LN,x.names.length=LN:=⟨_,rfl⟩
 obtain ⟨LK,bh⟩:∃LK,x.kids.length=LK:=⟨_,rfl⟩
 obtain ⟨S,D⟩:∃S,x.name=S:=⟨_,rfl⟩
 obtain ⟨T,F⟩:∃T,x.place=T:=⟨_,rfl⟩
 have V:∀cs,Hid (Below w.heap.size w (w.alloc (.cells cs 84))):=fun cs=>(Below.refl _ _).alloc (Nat.le_refl _) _
 have b:=Xa V
 clear hn hv hE V
 rcases hk with k|k|k|k|k|k|k
 ·have g:Hid (Yp x ns=(0,ns)):=by unfold Hid Yp;rw[if_neg (by omega),if_neg (by omega),if_neg (by omega),if_neg (by omega),if_neg (by omega),if_neg (by omega)]
  unfold Ym
  rw[k,g.out]
  clear k
  go_enter Tryz.func119,Tryz.ntmps119
  go_wp2_with fail
  go_ret2
  exact ⟨.inl ⟨rfl,_,rfl,P.out.below (b.out _).out⟩,(b.out _).out⟩
 ·have g:Hid (Yp x ns=(0,x.cst)):=by unfold Hid Yp;rw[if_neg (by omega),if_neg (by omega),if_pos k]
  obtain ⟨X,p⟩:=hx.cst k
  have bb:Hid (NodesAt B w (.slice aC LC cC) x.cst):=by have:=HN.out.cst;rw[o] at this;exact this
  obtain ⟨p1,p2,p3,p4⟩:=Xm p
  have bc:=Xa p2
  have bd:=Xa p4
  have Y:=Xa p
  unfold Ym
  rw[k,g.out]
  rw[o] at X
  have j:=Xa o
  rw[o]
  subst X
  clear o
  clear k p1 p2 p3 p4 p
  go_enter Tryz.func119,Tryz.ntmps119
  go_wp2_with fail
  refine (Xfj B _ x.cst _ (bb.out.below ((b.out _).out.mono hB)) (Nat.le_trans hB (b.out _).out.size) (by rw[j.out];omega) (by rw[j.out];omega) bc.out bd.out).mono ?_
  rintro e w1 ⟨VV,rfl,s,z,c⟩
  have l:=Xa ((b.out _).out.trans (c.mono (b.out _).out.size))
  have q:=Xa (X04 Y.out j.out (by have:=c.size;exact this) (z 0 (by rw[j.out];omega)))
  obtain ⟨t,yy,e0⟩:=q.out.iface
  have d:=s.cell (i:=0) (by rw[j.out];omega)
  rw[e0] at d q
  have ba:w1.cell? ⟨w.heap.size+1,0,none⟩=some (.iface t yy):=by simpa using d
  clear d
  rw[j.out]
  clear s z c
  go_wp2_with fail
  go_ret2
  exact ⟨.inl ⟨rfl,_,rfl,q.out⟩,l.out⟩
 ·have g:Hid (Yp x ns=(0,Q9 (!Xu ns))):=by unfold Hid Yp;rw[if_neg (by omega),if_neg (by omega),if_neg (by omega),if_neg (by omega),if_neg (by omega),if_pos k]
  obtain ⟨Z,G⟩:∃Z,Xu ns=Z:=⟨_,rfl⟩
  have be:=Xa G
  unfold Ym
  rw[k,g.out,G]
  clear k G
  go_enter Tryz.func119,Tryz.ntmps119
  go_wp2_with fail
  refine (Wc ns _ _ (P.out.below (b.out _).out)).mono ?_
  rw[be.out]
  rintro e w1 ⟨rfl,c⟩
  have l:=Xa ((b.out _).out.trans (c.mono (b.out _).out.size))
  clear c
  go_wp2_with fail
  refine (Xg2 (!Z) _).mono ?_
  rintro e w2 ⟨rfl,rfl⟩
  obtain ⟨bv,J⟩:∃bv:Int,(if (!Z)=true then 1 else 0)=bv:=⟨_,rfl⟩
  have bf:Hid (Rep w2 (Q9 (!Z)) (.iface 113 (.agg #[.int .i64 bv]))):=by rw[Hid,<-J];exact Xhu _ _
  rw[J]
  clear J
  go_wp2_with fail
  go_ret2
  exact ⟨.inl ⟨rfl,_,rfl,bf.out⟩,l.out⟩
 all_goals
  first
  |have g:Hid (Yp x ns=K8 ns S):=by unfold Hid Yp;rw[if_pos k,D]
   have L:=hx.key k
   rw[D] at L
   obtain ⟨R,f⟩:∃R,K8 ns S=R:=⟨_,rfl⟩
   have HR:=Xa f
   unfold Ym
   rw[k,g.out,D,f]
   clear k f
   go_enter Tryz.func119,Tryz.ntmps119
   go_wp2_with fail
   refine (Xy2 ns _ S _ (P.out.below (b.out _).out) (HE.out.below (b.out _).out).errs (by omega)).mono ?_
  |have g:Hid (Yp x ns=atR ns T):=by unfold Hid Yp;rw[if_neg (by omega),if_pos k,F]
   have L:=hx.place k
   rw[F] at L
   obtain ⟨R,f⟩:∃R,atR ns T=R:=⟨_,rfl⟩
   have HR:=Xa f
   unfold Ym
   rw[k,g.out,F,f]
   clear k f
   go_enter Tryz.func119,Tryz.ntmps119
   go_wp2_with fail
   refine (Xq8 ns _ T _ (P.out.below (b.out _).out) (HE.out.below (b.out _).out).errs (by omega) (by omega)).mono ?_
  |have g:Hid (Yp x ns=(Xas ns,Gx ns)):=by unfold Hid Yp;rw[if_neg (by omega),if_neg (by omega),if_neg (by omega),if_pos k]
   obtain ⟨R,f⟩:∃R,(Xas ns,Gx ns)=R:=⟨_,rfl⟩
   have HR:=Xa f
   unfold Ym
   rw[k,g.out,f]
   clear k f
   go_enter Tryz.func119,Tryz.ntmps119
   go_wp2_with fail
   refine (Xq9 ns _ _ (P.out.below (b.out _).out) (HE.out.below (b.out _).out).errs).mono ?_
  |have g:Hid (Yp x ns=K9 ns):=by unfold Hid Yp;rw[if_neg (by omega),if_neg (by omega),if_neg (by omega),if_neg (by omega),if_pos k]
   obtain ⟨R,f⟩:∃R,K9 ns=R:=⟨_,rfl⟩
   have HR:=Xa f
   unfold Ym
   rw[k,g.out,f]
   clear k f
   go_enter Tryz.func119,Tryz.ntmps119
   go_wp2_with fail
   refine (Xuw ns _ _ (P.out.below (b.out _).out) (HE.out.below (b.out _).out)).mono ?_
  rw[HR.out]
  rintro e w1 ⟨ha,c⟩
  have l:=Xa ((b.out _).out.trans (c.mono (b.out _).out.size))
  clear c
  rcases ha with ⟨h1,u,rfl,hr⟩|⟨h1,u,rfl,te,xe,rfl,hr⟩
  ·have H1:=Xa h1
   have M:=Xa hr
   obtain ⟨t,yy,rfl⟩:=hr.iface
   clear h1 hr
   go_wp2_with fail
   go_ret2
   exact ⟨.inl ⟨H1.out,_,rfl,M.out⟩,l.out⟩
  ·obtain ⟨C,hC⟩:∃C,R.1=C:=⟨_,rfl⟩
   have HC:=Xa hC
   rw[hC] at h1 hr|-
   have H1:=Xa h1
   have M:=Xa hr
   clear h1 hr hC
   go_wp2_with fail
   go_ret2
   exact ⟨.inr ⟨by rw[HC.out];exact H1.out,_,rfl,by rw[HC.out];exact ⟨te,xe,rfl,M.out⟩⟩,l.out⟩


theorem Xzq (us vs:List VN) (h1:okB us=true) (h2:okB vs=true) (hfu:∀i,i<us.length->Fits (Xb us i)) (hfv:∀i,i<vs.length->Fits (Xb vs i)) (lo B lo' B':Nat) (hlo:lo<=B) (hlo':lo'<=B') (x y:Value) (w:World) (hx:ValG lo B w us us.length (us.length-1) x) (hy:ValG lo' B' w vs vs.length (vs.length-1) y) (hB:B<=w.heap.size) (hB':B'<=w.heap.size) (hE:Errs2 w):
  Calls Tryz.prog 174 #[x,y] w fun e w'=>Q2 (Qg us vs) (Zt us vs) e w'/\Below w.heap.size w w':=by
 by_cases k1:(Xd us).kind=1
 ·exact Xs4 us vs h1 h2 lo B lo' B' hlo hlo' x y w hx hy hB hB' hE k1
 by_cases k2:(Xd vs).kind=1
 ·exact Xqg us vs h1 h2 lo B lo' B' hlo hlo' x y w hx hy hB hB' hE k1 k2
 by_cases k:(Xd us).kind=(Xd vs).kind
 case neg=>exact Xs5 us vs h1 h2 lo B lo' B' hlo hlo' x y w hx hy hB hB' hE k1 k2 k
 case pos=>
 rcases Ju h1 with q|q|⟨q,_,_⟩|⟨q,_⟩|⟨q,_⟩|⟨q,_⟩
 ·exact absurd q k1
 ·exact Xs6 us vs h1 h2 lo B lo' B' hlo hlo' x y w hx hy hB hB' hE q (by omega)
 ·exact X1b us vs h1 h2 lo B lo' B' hlo hlo' x y w hx hy hB hB' hE q (by omega)
 ·exact Xyx us vs h1 h2 lo B lo' B' hlo hlo' x y w hx hy hB hB' hE q (by omega)
 ·exact Xwg us vs h1 h2 lo B lo' B' hlo hlo' x y w hx hy hB hB' hE hfu hfv q (by omega)
 ·exact X1u us vs h1 h2 lo B lo' B' hlo hlo' x y w hx hy hB hB' hE hfu hfv q (by omega)


theorem Rep.val {w:World} {ns:List VN} {x:Value} (h:Rep w ns x) (lo:Nat):ValG lo w.heap.size w ns ns.length (ns.length-1) x:=by
 have p:=(Xm h.1).1
 have b:=(V0 h.1 ns.length (ns.length-1) (by omega) (by omega)).full
 have e:=Xk4 h.1 b (Ku h.1)
 have c:=h.2
 rw[<-e] at c
 exact TreeAt.val (c.less b)
theorem Xk8 {c:Int} {ns:List VN} {w w':World} {e:Ending} (hok:c=0->okB ns=true) (h:Q2 c ns e w') (hb:Below w.heap.size w w'):Jd (c,ns) w e w':=by
 refine ⟨?_,hb⟩
 rcases h with ⟨h1,f,t,ty,xv,he,ht,hl⟩|⟨h1,v,he,hr⟩
 ·exact .inl ⟨h1,_,he,Rep.of ht hl (hok h1)⟩
 ·refine .inr ⟨fun e0=> ?_,v,he,hr⟩
  have b:=hok e0
  subst h1
  have:=(Xm b).1.1
  simp at this
theorem X0u (us vs:List VN) (x y:Value) (w:World) (hx:Rep w us x) (hy:Rep w vs y) (hE:Errs2 w):Calls Tryz.prog 174 #[x,y] w (Jd (Qg us vs,Zt us vs) w):=
 (Xzq us vs hx.1 hy.1 (Uf hx.1) (Uf hy.1) 0 w.heap.size 0 w.heap.size (Nat.zero_le _) (Nat.zero_le _) x y w (hx.val 0) (hy.val 0) (Nat.le_refl _) (Nat.le_refl _) hE).mono fun e w' h=>Xk8 Xjv h.1 h.2
theorem Xw6 (us vs:List VN) (x y:Value) (w:World) (hx:Rep w us x) (hy:Rep w vs y) (hE:Errs2 w):Calls Tryz.prog 175 #[x,y] w (Jd (Vz us vs,Kg us vs) w):=
 (Xvg us vs hx.1 hy.1 0 w.heap.size 0 w.heap.size (Nat.zero_le _) (Nat.zero_le _) x y w (hx.val 0) (hy.val 0) (Nat.le_refl _) (Nat.le_refl _) hE).mono fun e w' h=>Xk8 Xn2 h.1 h.2
theorem Xol (us vs:List VN) (x y:Value) (w:World) (hx:Rep w us x) (hy:Rep w vs y):Calls Tryz.prog 194 #[x,y] w fun e w'=>e= .returned (.int .i64 (Y9 us vs))/\Below w.heap.size w w':=by
 have b:=(Xm hx.1).1
 have c:=(Xm hy.1).1
 rw[Xac hx.1 hy.1]
 exact Xfg us vs (Xf9 hx.1) (Xf9 hy.1) 0 w.heap.size 0 w.heap.size (Nat.zero_le _) (Nat.zero_le _) us.length vs.length (us.length-1) (vs.length-1) x y w (by omega) (by omega) (hx.val 0) (hy.val 0) (Nat.le_refl _) (Nat.le_refl _)
theorem Xrc (us vs:List VN): -2<=Y9 us vs/\Y9 us vs<=1:=by
 unfold Y9
 split
 ·have:=Xw9 us vs us.length (us.length-1) (vs.length-1);omega
 ·omega
structure Holds (K:FuncId) (g:Int->Bool):Prop where
 enter:∀o w,(callFunc K (#[o]++ #[])).run Tryz.prog w= .ok (.enter K (#[o]++ #[])) w
 says:∀o w,-2<=o->o<=1->Calls Tryz.prog K (#[.int .i64 o]++ #[]) w fun e w'=>e= .returned (.bool (g o))/\w'=w
theorem X0v:Holds 177 (fun o=>decide (o=0)):=⟨fun o w=>by kernel_rfl,fun o w h1 h2=>by
 show Calls Tryz.prog 177 #[.int .i64 o] w _
 go_enter Tryz.func177,Tryz.ntmps177
 go_wp2_with fail
 go_ret
 exact ⟨by first|rfl|simp,rfl⟩⟩
theorem X0w:Holds 178 (fun o=> !decide (o=0)):=⟨fun o w=>by kernel_rfl,fun o w h1 h2=>by
 show Calls Tryz.prog 178 #[.int .i64 o] w _
 go_enter Tryz.func178,Tryz.ntmps178
 go_wp2_with fail
 go_ret
 exact ⟨by first|rfl|simp,rfl⟩⟩
theorem X0x:Holds 179 (fun o=>decide (o<0)):=⟨fun o w=>by kernel_rfl,fun o w h1 h2=>by
 show Calls Tryz.prog 179 #[.int .i64 o] w _
 go_enter Tryz.func179,Tryz.ntmps179
 go_wp2_with fail
 go_ret
 exact ⟨by first|rfl|simp,rfl⟩⟩
theorem X0y:Holds 180 (fun o=>decide (o<=0)):=⟨fun o w=>by kernel_rfl,fun o w h1 h2=>by
 show Calls Tryz.prog 180 #[.int .i64 o] w _
 go_enter Tryz.func180,Tryz.ntmps180
 go_wp2_with fail
 go_ret
 exact ⟨by first|rfl|simp,rfl⟩⟩
theorem X0z (a b:Value) (w:World):(callFunc 194 #[a,b]).run Tryz.prog w= .ok (.enter 194 #[a,b]) w:=by kernel_rfl
theorem Xua (a:Value) (w:World):(callFunc 158 #[a]).run Tryz.prog w= .ok (.enter 158 #[a]) w:=by kernel_rfl
theorem Xom {K:FuncId} {g:Int->Bool} (hK:Holds K g) (us vs:List VN) (x y:Value) (hb:Nat) (w:World) (hx:Rep w us x) (hy:Rep w vs y) (hc:w.cell? ⟨hb,0,none⟩=some (.func (.func K) #[] #[])):
  Calls Tryz.prog 193 #[x,y, .pointer (some ⟨hb,0,none⟩)] w (Jd (0,Q9 (g (Y9 us vs))) w):=by
 have p:=Xa hK
 have c:Hid (∀w',Below w.heap.size w w'->Calls Tryz.prog 194 #[x,y] w' fun e w''=>e= .returned (.int .i64 (Y9 us vs))/\Below w'.heap.size w' w''):=fun w' h=>Xol us vs x y w' (hx.below h) (hy.below h)
 obtain ⟨z,B,rfl⟩:=hx.iface
 obtain ⟨C,D,rfl⟩:=hy.iface
 have q:=Xrc us vs
 obtain ⟨o,s⟩:∃o,Y9 us vs=o:=⟨_,rfl⟩
 rw[s] at q c|-
 obtain ⟨d,f⟩:=q
 have j:=X7 hc
 clear hK hx hy s
 go_enter Tryz.func193,Tryz.ntmps193
 go_wp2_with fail
 go_region_law
  (first
   |(refine Kf (by rfl) 194 _ _ _ _ (by rfl) (.iface z B) (.iface C D) (by rfl) (by rfl) (X0z _ _) (c.out _ (by first|exact Below.refl _ _|exact (Below.refl _ _).drew)) ?_;rintro e G ⟨rfl,b⟩;have l:=(Xc b (by simpa using j)).trans hc;refine ⟨_,rfl, ?_⟩)
   |(refine Xuy (by rfl) K #[] _ _ _ (by rfl) (.int .i64 o) (by rfl) (by rfl) (p.out.enter _) (p.out.says o _ d f) ?_;rintro e J ⟨rfl,rfl⟩;refine ⟨_,rfl, ?_⟩)
   |(refine Zu (by rfl) 158 _ _ (by rfl) (.bool (g o)) (by rfl) (Xua _) (Xg2 _ _) ?_;rintro e F ⟨rfl,rfl⟩;refine ⟨_,rfl, ?_⟩))
 all_goals
  have t:Hid (Below w.heap.size w F):=(Below.drew (Below.refl w.heap.size w)).trans b
  clear b l
  go_wp2_with fail
  all_goals
   go_ret2
   first
    |exact ⟨.inl ⟨rfl,_,rfl,Xhu true _⟩,t.out⟩
    |exact ⟨.inl ⟨rfl,_,rfl,Xhu false _⟩,t.out⟩
structure MerOk (Z E O:Nat) (w0:World) (F:FuncId) (caps:Array Value) (kind:Int):Prop where
 enter:∀a b w,(callFunc F (#[a,b]++caps)).run Tryz.prog w= .ok (.enter F (#[a,b]++caps)) w
 says:∀w,FrH Z E O w0 w->Errs2 w->∀us vs x y,Rep w us x->Rep w vs y->Calls Tryz.prog F (#[x,y]++caps) w (Jd (Yy kind us vs) w)
theorem MerOk.on {Z E O:Nat} {w0 w1:World} {F:FuncId} {caps:Array Value} {kind:Int} (h:MerOk Z E O w0 F caps kind) (hf:FrH Z E O w0 w1):MerOk Z E O w1 F caps kind:=⟨h.enter,fun w hw=>h.says w (hf.trans hw)⟩
theorem X00 (Z E O:Nat) (w0:World):MerOk Z E O w0 174 #[] 15:=⟨fun a b w=>by kernel_rfl,fun w _ hE us vs x y hx hy=>X0u us vs x y w hx hy hE⟩
theorem Xw7 (Z E O:Nat) (w0:World):MerOk Z E O w0 175 #[] 16:=⟨fun a b w=>by kernel_rfl,fun w _ hE us vs x y hx hy=>Xw6 us vs x y w hx hy hE⟩
theorem Wy {K:FuncId} {g:Int->Bool} (hK:Holds K g) {kind:Int} (hk:∀us vs,Yy kind us vs=(0,Q9 (g (Y9 us vs)))) (Z E O:Nat) (w0:World) (hb:Nat) (h1:hb≠E) (h2:hb≠O) (hc:w0.cell? ⟨hb,0,none⟩=some (.func (.func K) #[] #[])):
  MerOk Z E O w0 193 #[.pointer (some ⟨hb,0,none⟩)] kind:=⟨fun a b w=>by kernel_rfl,fun w hf hE us vs x y hx hy=>by
 rw[hk]
 exact Xom hK us vs x y hb w hx hy (hf.cell hb 0 _ h1 h2 (by intro e;cases e) hc)⟩
theorem Wz (K:FuncId) (w:World):Calls Tryz.prog 176 #[.func (.func K) #[] #[]] w fun e w'=>e= .returned (.func (.func 193) #[] #[.pointer (some ⟨w.heap.size,0,none⟩)])/\Below w.heap.size w w'/\w'.cell? ⟨w.heap.size,0,none⟩=some (.func (.func K) #[] #[]):=by
 go_enter Tryz.func176,Tryz.ntmps176
 go_wp2_with fail
 go_ret
 exact ⟨rfl,(Below.refl _ _).alloc (Nat.le_refl _) _,by simp⟩
theorem Xon (kind:Int) (h1:15<=kind) (h2:kind<=20) (Z E O:Nat) (w:World) (hE:E<w.heap.size) (hO:O<w.heap.size):
  Calls Tryz.prog 147 #[.int .i64 kind] w fun e w'=>∃F caps,e= .returned (.func (.func F) #[] caps)/\MerOk Z E O w' F caps kind/\Below w.heap.size w w':=by
 have s:kind=15\/kind=16\/kind=17\/kind=18\/kind=19\/kind=20:=by omega
 have b:∀us vs,Yy 17 us vs=(0,Q9 ((fun o=>decide (o=0)) (Y9 us vs))):=fun us vs=>rfl
 have c:∀us vs,Yy 18 us vs=(0,Q9 ((fun o=> !decide (o=0)) (Y9 us vs))):=fun us vs=>rfl
 have d:∀us vs,Yy 19 us vs=(0,Q9 ((fun o=>decide (o<0)) (Y9 us vs))):=fun us vs=>rfl
 have f:∀us vs,Yy 20 us vs=(0,Q9 ((fun o=>decide (o<=0)) (Y9 us vs))):=fun us vs=>rfl
 rcases s with rfl|rfl|rfl|rfl|rfl|rfl
 ·clear b c d f
  go_enter Tryz.func147,Tryz.ntmps147
  go_wp2_with fail
  go_ret
  exact ⟨_,_,rfl,X00 _ _ _ _,Below.refl _ _⟩
 ·clear b c d f
  go_enter Tryz.func147,Tryz.ntmps147
  go_wp2_with fail
  go_ret
  exact ⟨_,_,rfl,Xw7 _ _ _ _,Below.refl _ _⟩
 ·have Q:=Xa b
  clear b c d f
  go_enter Tryz.func147,Tryz.ntmps147
  go_wp2_with fail
  refine (Wz _ _).mono ?_
  rintro e q ⟨rfl,g,j⟩
  have l:=Xa g
  have p:=Xa j
  clear g j
  go_wp2_with fail
  go_ret
  exact ⟨_,_,rfl,Wy X0v Q.out _ _ _ _ _ (by omega) (by omega) p.out,l.out⟩
 ·have Q:=Xa c
  clear b c d f
  go_enter Tryz.func147,Tryz.ntmps147
  go_wp2_with fail
  refine (Wz _ _).mono ?_
  rintro e q ⟨rfl,g,j⟩
  have l:=Xa g
  have p:=Xa j
  clear g j
  go_wp2_with fail
  go_ret
  exact ⟨_,_,rfl,Wy X0w Q.out _ _ _ _ _ (by omega) (by omega) p.out,l.out⟩
 ·have Q:=Xa d
  clear b c d f
  go_enter Tryz.func147,Tryz.ntmps147
  go_wp2_with fail
  refine (Wz _ _).mono ?_
  rintro e q ⟨rfl,g,j⟩
  have l:=Xa g
  have p:=Xa j
  clear g j
  go_wp2_with fail
  go_ret
  exact ⟨_,_,rfl,Wy X0x Q.out _ _ _ _ _ (by omega) (by omega) p.out,l.out⟩
 ·have Q:=Xa f
  clear b c d f
  go_enter Tryz.func147,Tryz.ntmps147
  go_wp2_with fail
  refine (Wz _ _).mono ?_
  rintro e q ⟨rfl,g,j⟩
  have l:=Xa g
  have p:=Xa j
  clear g j
  go_wp2_with fail
  go_ret
  exact ⟨_,_,rfl,Wy X0y Q.out _ _ _ _ _ (by omega) (by omega) p.out,l.out⟩


theorem IntsAt.get {B:Nat} {w:World} {ki:Value} {l:List Int} (h:IntsAt B w ki l) {j:Nat} (hj:j<l.length):∃b o c,ki= .slice (some ⟨b,o,none⟩) l.length c/\b<B/\w.cell? ⟨b,o+j,none⟩=some (.int .i64 (Xj l j)):=by
 obtain ⟨_,_,a,c,rfl,d⟩:=h
 obtain ⟨b,o,rfl,f,g⟩:=d (by omega)
 exact ⟨b,o,c,rfl,f,g j hj⟩
abbrev X9 (H:FuncId) (caps:Array Value):Value:= .func (.func H) #[] caps
theorem Jv (a b c d:Value) (w:World):(callFunc 110 #[a,b,c,d]).run Tryz.prog w= .ok (.enter 110 #[a,b,c,d]) w:=by kernel_rfl
theorem Qw {B Z E O D:Nat} {fv:Value} {fs:List FN} {d:Nat} (hok:okF fs=true) (ho:Jb B E fv fs d) {H:FuncId} {caps:Array Value} {h:X6} {w W:World} {st:Xs} {n:Int} {ns:List VN} {v:Value} (hn:0<=n/\n.toNat<fs.length) (hh:HandOk B Z E O D fv fs w H caps h) (hst:St B Z E O fv fs st w) (hv:Rep w ns v) (hd:st.1<=d) (hD:st.1<=D) (hb:Below w.heap.size w W):
  Calls Tryz.prog 110 #[.pointer (some ⟨E,0,none⟩), .int .i64 n,v,X9 H caps] W fun e w'=>(∃v,e= .returned v/\Km w' (Xp (Xh fs d) n ns h st).1 v)/\FrH Z E O w w'/\St B Z E O fv fs (Xp (Xh fs d) n ns h st).2 w':=
 (X1m ho hn (hh.on (.of_below hb hst.hZ)) (hst.below hb) (hv.below hb) hd hD (Ze hok d)).mono fun e w' k=>⟨k.1,(FrH.of_below hb hst.hZ).trans k.2.1,k.2.2⟩
theorem Xbe {fs:List FN} (hok:okF fs=true) (d:Nat) {h:X6} (hh:∀ns st,okB ns=true->(h ns st).2.1<=st.1) (n:Int) {ns:List VN} (hv:okB ns=true) (st:Xs):(Xp (Xh fs d) n ns h st).2.1<=st.1:=by
 have b:=Ze hok d
 have c:∀(l:List (List VN)) (st:Xs),(∀x∈l,okB x=true)->(Xq h l st).2.1<=st.1:=by
  intro l
  induction l with
  |nil=>intro st _;exact Nat.le_refl _
  |cons x r ih=>
   intro st f
   rw[Xq]
   have g:=hh x st (f x (by simp))
   split
   ·exact Nat.le_trans (ih _ fun y hy=>f y (by simp[hy])) g
   ·exact g
 unfold Xp
 split
 ·exact Nat.le_trans (c _ _ (b.ok _ _ _ hv)) (b.le _ _ _ hv)
 ·exact b.le _ _ _ hv
structure NodeBox (B:Nat) (w:World) (nb:Nat) (x:FN) (kc kn ki:Value):Prop where
 c0:w.cell? ⟨nb,0,none⟩=some (.int .i64 x.kind)
 c1:w.cell? ⟨nb,1,none⟩=some (.string x.name)
 c2:w.cell? ⟨nb,2,none⟩=some (.int .i64 x.place)
 c3:w.cell? ⟨nb,3,none⟩=some kc
 c4:w.cell? ⟨nb,4,none⟩=some kn
 c5:w.cell? ⟨nb,5,none⟩=some ki
 inn:FNodeIn B w x kc kn ki
theorem NodeBox.on {B Z E O:Nat} {w w':World} {nb:Nat} {x:FN} {kc kn ki:Value} (h:NodeBox B w nb x kc kn ki) (hf:FrH Z E O w w') (h1:nb≠E) (h2:nb≠O) (hB:B<=E) (hZ:B<=Z):NodeBox B w' nb x kc kn ki:=by
 obtain ⟨_,f,g,b,_⟩:=h.inn.cst
 obtain ⟨_,_,j,l,c,_⟩:=h.inn.names
 obtain ⟨_,_,o,p,d,_⟩:=h.inn.kids
 exact ⟨hf.cell _ _ _ h1 h2 (by intro e;cases e) h.c0,hf.cell _ _ _ h1 h2 (by intro e;cases e) h.c1,hf.cell _ _ _ h1 h2 (by intro e;cases e) h.c2,hf.cell _ _ _ h1 h2 (by rw[b];intro e;cases e) h.c3,hf.cell _ _ _ h1 h2 (by rw[c];intro e;cases e) h.c4,hf.cell _ _ _ h1 h2 (by rw[d];intro e;cases e) h.c5,h.inn.below (hf.below hB hZ)⟩
theorem Xye {B Z E O D:Nat} {fv:Value} {fs:List FN} {d:Nat} (hok:okF fs=true) (ho:Jb B E fv fs d) {x:FN} (hx:NodeOk fs x) (h2:x.kids.length=2) {kc kn ki:Value} {H:FuncId} {caps:Array Value} {h:X6} {w0:World} (hh:HandOk B Z E O D fv fs w0 H caps h) (hD:D<=d) (hBE:B<=E) (hBZ:B<=Z)
  {eb nb hb:Nat} (e1:eb≠E/\eb≠O) (e2:nb≠E/\nb≠O) (e3:hb≠E/\hb≠O) (q1:w0.cell? ⟨eb,0,none⟩=some (.pointer (some ⟨E,0,none⟩))) (q2:NodeBox B w0 nb x kc kn ki) (q3:w0.cell? ⟨hb,0,none⟩=some (X9 H caps)):
  HandOk B Z E O D fv fs w0 111 #[.pointer (some ⟨eb,0,none⟩), .pointer (some ⟨nb,0,none⟩), .pointer (some ⟨hb,0,none⟩)] (fun y=>Xp (Xh fs d) (Xk x 1) y h):=by
 refine ⟨fun x w=>by kernel_rfl,fun ns st hv=>Xbe hok d hh.le _ hv st,fun w hf st v ns hst1 hst hv=> ?_⟩
 show Calls Tryz.prog 111 #[v, .pointer (some ⟨eb,0,none⟩), .pointer (some ⟨nb,0,none⟩), .pointer (some ⟨hb,0,none⟩)] w _
 have S:=hf.cell eb 0 _ e1.1 e1.2 (by intro e;cases e) q1
 have T:=hf.cell hb 0 _ e3.1 e3.2 (by intro e;cases e) q3
 have b:=q2.on hf e2.1 e2.2 hBE hBZ
 have C:=b.c5
 obtain ⟨F,G,t,rfl,J,z⟩:=b.inn.kids.get (j:=1) (by omega)
 rw[h2] at C
 have f:Hid (∀W,Below w.heap.size w W->Calls Tryz.prog 110 #[.pointer (some ⟨E,0,none⟩), .int .i64 (Xk x 1),v,X9 H caps] W fun e w'=>(∃v,e= .returned v/\Km w' (Xp (Xh fs d) (Xk x 1) ns h st).1 v)/\FrH Z E O w w'/\St B Z E O fv fs (Xp (Xh fs d) (Xk x 1) ns h st).2 w'):=fun W hb=>Qw hok ho (hx.kid 1 (by omega)) (hh.on hf) hst hv (by omega) hst1 hb
 obtain ⟨L,y,rfl⟩:=hv.iface
 obtain ⟨R,q⟩:∃R,Xp (Xh fs d) (Xk x 1) ns h st=R:=⟨_,rfl⟩
 obtain ⟨p,c⟩:∃p,Xk x 1=p:=⟨_,rfl⟩
 have V:w.cell? ⟨F,G+1,none⟩=some (.int .i64 p):=by rw[<-c];exact z
 rw[q,c] at f
 show Calls _ _ _ _ (Y6 B Z E O fv fs (Xp (Xh fs d) (Xk x 1) ns h st) w)
 rw[q]
 clear hf hst hv b z q c hh q1 q2 q3 e1 e2 e3 ho hx hok
 go_enter Tryz.func111,Tryz.ntmps111
 go_wp2_with fail
 go_region_law (refine Q5 (by rfl) 110 _ _ _ _ _ _ _ _ (by rfl) (.pointer (some ⟨E,0,none⟩)) (.int .i64 p) (.iface L y) (X9 H caps) (by rfl) (by rfl) (by rfl) (by rfl) (Jv _ _ _ _) (f.out _ (by first|exact Below.refl _ _|exact (Below.refl _ _).drew)) ?_;rintro e X ⟨⟨Y,rfl,g⟩,l,o⟩;refine ⟨_,rfl, ?_⟩)
 all_goals
  have M:=Xa l
  have P:=Xa o
  have s:=Xa g
  clear l o g
  go_wp2_with fail
  go_ret
  exact ⟨⟨_,rfl,s.out⟩,M.out,P.out⟩
theorem Xhn {h:X6} (hh:∀ns st,okB ns=true->(h ns st).2.1<=st.1) {r:Int×List VN} (hr:r.1=0->okB r.2=true) (st:Xs):(Yk r h st).2.1<=st.1:=by
 unfold Yk
 split
 ·rename_i e;exact hh _ _ (hr e)
 ·exact Nat.le_refl _
theorem Xyf {r:Int×List VN} (h0:r.1=0) (h:X6) (st:Xs):Yk r h st=h r.2 st:=by unfold Yk;rw[if_pos h0]
theorem X1p {r:Int×List VN} (h0:r.1≠0) (h:X6) (st:Xs):Yk r h st=(r.1,st):=by unfold Yk;rw[if_neg h0]
theorem Vh {B Z E O D:Nat} {fv:Value} {fs:List FN} {H:FuncId} {caps:Array Value} {h:X6} {w w1:World} {st:Xs} {r:Int×List VN} {u v:Value} (hh:HandOk B Z E O D fv fs w H caps h) (hst:St B Z E O fv fs st w) (hD:st.1<=D) (hb:Below w.heap.size w w1)
  (hr:(r.1=0/\v= .nilIface/\Rep w1 r.2 u)\/(r.1≠0/\u= .nilIface/\J6 w1 r.1 v)):
  Calls Tryz.prog 120 #[u,v,X9 H caps] w1 (fun e w'=>(∃v,e= .returned v/\Km w' (Yk r h st).1 v)/\FrH Z E O w w'/\St B Z E O fv fs (Yk r h st).2 w'):=by
 have b:FrH Z E O w w1:= .of_below hb hst.hZ
 rcases hr with ⟨h0,rfl,hrep⟩|⟨h0,rfl,hv⟩
 ·rw[Xyf h0]
  exact (Xuz (hh.on b) (hst.below hb) hrep hD).mono fun e w' k=>⟨k.1,b.trans k.2.1,k.2.2⟩
 ·rw[X1p h0]
  refine (Xx8 .nilIface v (X9 H caps) w1 h0 (.inl rfl) hv).mono ?_
  rintro e w' ⟨rfl,rfl⟩
  exact ⟨⟨_,rfl, .inr ⟨h0,hv⟩⟩,b,hst.below hb⟩
theorem Xro {B Z E O D:Nat} {fv:Value} {fs:List FN} {H:FuncId} {caps:Array Value} {h:X6} {w0:World} (hh:HandOk B Z E O D fv fs w0 H caps h) {vs:List VN} {v0:Value} (hv0:Rep w0 vs v0) {hb vb:Nat} (e1:hb≠E/\hb≠O) (e2:vb≠E/\vb≠O) (q1:w0.cell? ⟨hb,0,none⟩=some (X9 H caps)) (q2:w0.cell? ⟨vb,0,none⟩=some v0)
  (hrd:∀w,FrH Z E O w0 w->Reads2 w0 w):
  HandOk B Z E O D fv fs w0 145 #[.pointer (some ⟨hb,0,none⟩), .pointer (some ⟨vb,0,none⟩)] (fun y st=>if Xu y=true then h vs st else (0,st)):=by
 refine ⟨fun x w=>by kernel_rfl,fun ns st hv=>by show (if Xu ns=true then h vs st else (0,st)).2.1<=st.1;split;exact hh.le _ _ hv0.1;exact Nat.le_refl _,fun w hf st x ns hst1 hst hx=> ?_⟩
 show Calls Tryz.prog 145 #[x, .pointer (some ⟨hb,0,none⟩), .pointer (some ⟨vb,0,none⟩)] w _
 have L:=Xa (hh.on hf)
 have g:=Xa (hv0.reads (hrd w hf))
 obtain ⟨V,X,rfl⟩:=hv0.iface
 have d:=Xa hst
 have j:=Xa (Wc ns x w hx)
 have M:=hf.cell hb 0 _ e1.1 e1.2 (by intro e;cases e) q1
 have P:=hf.cell vb 0 _ e2.1 e2.2 (by intro e;cases e) q2
 have l:=X7 M
 have o:=X7 P
 obtain ⟨Y,y,rfl⟩:=hx.iface
 obtain ⟨p,q⟩:∃p,Xu ns=p:=⟨_,rfl⟩
 show Calls _ _ _ _ (Y6 B Z E O fv fs (if Xu ns=true then h vs st else (0,st)) w)
 rw[q] at j|-
 cases p
 ·rw[if_neg (by simp)]
  go_enter Tryz.func145,Tryz.ntmps145
  go_wp2_with fail
  refine j.out.mono ?_
  rintro e s ⟨rfl,b⟩
  have c:=Xa b
  go_wp2_with fail
  go_ret
  exact ⟨⟨_,rfl, .inl ⟨rfl,rfl⟩⟩, .of_below c.out d.out.hZ,d.out.below c.out⟩
 ·rw[if_pos rfl]
  obtain ⟨R,S⟩:∃R,h vs st=R:=⟨_,rfl⟩
  have T:=Xa S
  rw[S]
  go_enter Tryz.func145,Tryz.ntmps145
  go_wp2_with fail
  refine j.out.mono ?_
  rintro e s ⟨rfl,b⟩
  have c:=Xa b
  have f:Hid (FrH Z E O w s):= .of_below b d.out.hZ
  have m1:=(Xc b l).trans M
  have m2:=(Xc b o).trans P
  go_wp2_with fail
  rw[L.out.enter,Oper.upon_enter]
  refine (L.out.says s f.out st _ vs hst1 (d.out.below c.out) (g.out.below c.out)).mono ?_
  rw[T.out]
  rintro e w2 ⟨⟨ev,rfl,t⟩,z,C⟩
  have F:=Xa t
  have G:=Xa (f.out.trans z)
  have J:=Xa C
  go_wp2_with fail
  go_ret
  exact ⟨⟨_,rfl,F.out⟩,G.out,J.out⟩
theorem X1q {B Z E O D:Nat} {fv:Value} {fs:List FN} {H:FuncId} {caps:Array Value} {h:X6} {w0:World} (hh:HandOk B Z E O D fv fs w0 H caps h) {hb:Nat} (e1:hb≠E/\hb≠O) (q1:w0.cell? ⟨hb,0,none⟩=some (X9 H caps)):
  HandOk B Z E O D fv fs w0 152 #[.pointer (some ⟨hb,0,none⟩)] (Va h):=by
 refine ⟨fun x w=>by kernel_rfl,fun ns st hv=>by unfold Va;split;exact hh.le _ _ hv;exact Nat.le_refl _,fun w hf st x ns hst1 hst hx=> ?_⟩
 show Calls Tryz.prog 152 #[x, .pointer (some ⟨hb,0,none⟩)] w _
 have G:=Xa (hh.on hf)
 have d:=Xa hst
 have M:=Xa hx
 have l:=Xa (Wc ns x w hx)
 have J:=hf.cell hb 0 _ e1.1 e1.2 (by intro e;cases e) q1
 have o:=X7 J
 obtain ⟨T,y,rfl⟩:=hx.iface
 obtain ⟨j,f⟩:∃j,Xu ns=j:=⟨_,rfl⟩
 have P:Va h ns st=if j=true then h ns st else (0,st):=by unfold Va;rw[f]
 rw[P]
 rw[f] at l
 cases j
 ·rw[if_neg (by simp)]
  go_enter Tryz.func152,Tryz.ntmps152
  go_wp2_with fail
  refine l.out.mono ?_
  rintro e p ⟨rfl,b⟩
  have c:=Xa b
  go_wp2_with fail
  go_ret
  exact ⟨⟨_,rfl, .inl ⟨rfl,rfl⟩⟩, .of_below c.out d.out.hZ,d.out.below c.out⟩
 ·rw[if_pos rfl]
  obtain ⟨R,L⟩:∃R,h ns st=R:=⟨_,rfl⟩
  have S:=Xa L
  rw[L]
  go_enter Tryz.func152,Tryz.ntmps152
  go_wp2_with fail
  refine l.out.mono ?_
  rintro e p ⟨rfl,b⟩
  have c:=Xa b
  have g:Hid (FrH Z E O w p):= .of_below b d.out.hZ
  have V:=(Xc b o).trans J
  go_wp2_with fail
  rw[G.out.enter,Oper.upon_enter]
  refine (G.out.says p g.out st _ ns hst1 (d.out.below c.out) (M.out.below c.out)).mono ?_
  rw[S.out]
  rintro e X ⟨⟨Y,rfl,q⟩,s,t⟩
  have z:=Xa q
  have C:=Xa (g.out.trans s)
  have F:=Xa t
  go_wp2_with fail
  go_ret
  exact ⟨⟨_,rfl,z.out⟩,C.out,F.out⟩


theorem X2y {B Z E O D:Nat} {fv:Value} {fs:List FN} {d:Nat} (hok:okF fs=true) (ho:Jb B E fv fs d) {x:FN} (hx:NodeOk fs x) (h3:x.kids.length=3) {kc kn ki:Value} {H:FuncId} {caps:Array Value} {h:X6} {w0:World} (hh:HandOk B Z E O D fv fs w0 H caps h) (hD:D<=d) (hBE:B<=E) (hBZ:B<=Z)
  {vs:List VN} {v0:Value} (hv0:Rep w0 vs v0) (hrd:∀w,FrH Z E O w0 w->Reads2 w0 w)
  {eb nb vb hb:Nat} (e1:eb≠E/\eb≠O) (e2:nb≠E/\nb≠O) (e4:vb≠E/\vb≠O) (e3:hb≠E/\hb≠O) (q1:w0.cell? ⟨eb,0,none⟩=some (.pointer (some ⟨E,0,none⟩))) (q2:NodeBox B w0 nb x kc kn ki) (q4:w0.cell? ⟨vb,0,none⟩=some v0) (q3:w0.cell? ⟨hb,0,none⟩=some (X9 H caps)):
  HandOk B Z E O D fv fs w0 153 #[.pointer (some ⟨eb,0,none⟩), .pointer (some ⟨nb,0,none⟩), .pointer (some ⟨vb,0,none⟩), .pointer (some ⟨hb,0,none⟩)] (fun y=>if Xu y=true then Xp (Xh fs d) (Xk x 1) vs h else Xp (Xh fs d) (Xk x 2) vs h):=by
 refine ⟨fun x w=>by kernel_rfl,fun ns st hv=>by show ((if Xu ns=true then Xp (Xh fs d) (Xk x 1) vs h else Xp (Xh fs d) (Xk x 2) vs h) st).2.1<=st.1;split;exact Xbe hok d hh.le _ hv0.1 st;exact Xbe hok d hh.le _ hv0.1 st,fun w hf st y ns hst1 hst hy=> ?_⟩
 show Calls Tryz.prog 153 #[y, .pointer (some ⟨eb,0,none⟩), .pointer (some ⟨nb,0,none⟩), .pointer (some ⟨vb,0,none⟩), .pointer (some ⟨hb,0,none⟩)] w _
 show Calls _ _ _ _ (Y6 B Z E O fv fs ((if Xu ns=true then Xp (Xh fs d) (Xk x 1) vs h else Xp (Xh fs d) (Xk x 2) vs h) st) w)
 have Y:=Xa (Wc ns y w hy)
 have f:=hv0.reads (hrd w hf)
 have J:=hf.cell eb 0 _ e1.1 e1.2 (by intro e;cases e) q1
 have L:=hf.cell hb 0 _ e3.1 e3.2 (by intro e;cases e) q3
 obtain ⟨V,X,rfl⟩:=hv0.iface
 have M:=hf.cell vb 0 _ e4.1 e4.2 (by intro e;cases e) q4
 have g:=q2.on hf e2.1 e2.2 hBE hBZ
 have z:=g.c5
 obtain ⟨ty,y1,rfl⟩:=hy.iface
 obtain ⟨tb,P⟩:∃tb,Xu ns=tb:=⟨_,rfl⟩
 have bb:=Xa hst
 rw[P] at Y|-
 clear P hy
 cases tb
 ·rw[if_neg (by simp)]
  obtain ⟨kb,ko,S,rfl,ba,T⟩:=g.inn.kids.get (j:=2) (by omega)
  rw[h3] at z
  have l:Hid (∀W,Below w.heap.size w W->Calls Tryz.prog 110 #[.pointer (some ⟨E,0,none⟩), .int .i64 (Xk x 2),(.iface V X),X9 H caps] W fun e w'=>(∃v,e= .returned v/\Km w' (Xp (Xh fs d) (Xk x 2) vs h st).1 v)/\FrH Z E O w w'/\St B Z E O fv fs (Xp (Xh fs d) (Xk x 2) vs h st).2 w'):=fun W hb=>Qw hok ho (hx.kid 2 (by omega)) (hh.on hf) hst f (by omega) hst1 hb
  obtain ⟨R,C⟩:∃R,Xp (Xh fs d) (Xk x 2) vs h st=R:=⟨_,rfl⟩
  obtain ⟨t,c⟩:∃t,Xk x 2=t:=⟨_,rfl⟩
  have F:w.cell? ⟨kb,ko+2,none⟩=some (.int .i64 t):=by rw[<-c];exact T
  rw[C,c] at l
  rw[C]
  have l1:=X7 J
  have l2:=X7 z
  have l3:=X7 L
  have l5:=X7 F
  have l6:=X7 M
  clear hf hst hv0 f hrd g T C c hh q1 q2 q3 q4 e1 e2 e3 e4 ho hx hok
  go_enter Tryz.func153,Tryz.ntmps153
  go_wp2_with fail
  refine Y.out.mono ?_
  rintro e w1 ⟨rfl,b⟩
  have o:=Xa b
  have m1:=(Xc b l1).trans J
  have m2:=(Xc b l2).trans z
  have m3:=(Xc b l3).trans L
  have m5:=(Xc b l5).trans F
  have m6:=(Xc b l6).trans M
  clear J z L F M b
  go_wp2_with fail
  go_region_law (refine Q5 (by rfl) 110 _ _ _ _ _ _ _ _ (by rfl) (.pointer (some ⟨E,0,none⟩)) (.int .i64 t) (.iface V X) (X9 H caps) (by rfl) (by rfl) (by rfl) (by rfl) (Jv _ _ _ _) (l.out _ (by first|exact o.out|exact o.out.drew)) ?_;rintro e w3 ⟨⟨ev,rfl,p⟩,q,s⟩;refine ⟨_,rfl, ?_⟩)
  all_goals
   have HF:=Xa q
   have HS:=Xa s
   have G:=Xa p
   clear q s p
   go_wp2_with fail
   go_ret
   exact ⟨⟨_,rfl,G.out⟩,HF.out,HS.out⟩
 ·rw[if_pos rfl]
  obtain ⟨kb,ko,S,rfl,ba,T⟩:=g.inn.kids.get (j:=1) (by omega)
  rw[h3] at z
  have l:Hid (∀W,Below w.heap.size w W->Calls Tryz.prog 110 #[.pointer (some ⟨E,0,none⟩), .int .i64 (Xk x 1),(.iface V X),X9 H caps] W fun e w'=>(∃v,e= .returned v/\Km w' (Xp (Xh fs d) (Xk x 1) vs h st).1 v)/\FrH Z E O w w'/\St B Z E O fv fs (Xp (Xh fs d) (Xk x 1) vs h st).2 w'):=fun W hb=>Qw hok ho (hx.kid 1 (by omega)) (hh.on hf) hst f (by omega) hst1 hb
  obtain ⟨R,C⟩:∃R,Xp (Xh fs d) (Xk x 1) vs h st=R:=⟨_,rfl⟩
  obtain ⟨t,c⟩:∃t,Xk x 1=t:=⟨_,rfl⟩
  have F:w.cell? ⟨kb,ko+1,none⟩=some (.int .i64 t):=by rw[<-c];exact T
  rw[C,c] at l
  rw[C]
  have l1:=X7 J
  have l2:=X7 z
  have l3:=X7 L
  have l5:=X7 F
  have l6:=X7 M
  clear hf hst hv0 f hrd g T C c hh q1 q2 q3 q4 e1 e2 e3 e4 ho hx hok
  go_enter Tryz.func153,Tryz.ntmps153
  go_wp2_with fail
  refine Y.out.mono ?_
  rintro e w1 ⟨rfl,b⟩
  have o:=Xa b
  have m1:=(Xc b l1).trans J
  have m2:=(Xc b l2).trans z
  have m3:=(Xc b l3).trans L
  have m5:=(Xc b l5).trans F
  have m6:=(Xc b l6).trans M
  clear J z L F M b
  go_wp2_with fail
  go_region_law (refine Q5 (by rfl) 110 _ _ _ _ _ _ _ _ (by rfl) (.pointer (some ⟨E,0,none⟩)) (.int .i64 t) (.iface V X) (X9 H caps) (by rfl) (by rfl) (by rfl) (by rfl) (Jv _ _ _ _) (l.out _ (by first|exact o.out|exact o.out.drew)) ?_;rintro e w3 ⟨⟨ev,rfl,p⟩,q,s⟩;refine ⟨_,rfl, ?_⟩)
  all_goals
   have HF:=Xa q
   have HS:=Xa s
   have G:=Xa p
   clear q s p
   go_wp2_with fail
   go_ret
   exact ⟨⟨_,rfl,G.out⟩,HF.out,HS.out⟩
theorem Xl0 {B Z E O D:Nat} {fv:Value} {fs:List FN} {H:FuncId} {caps:Array Value} {h:X6} {w0:World} (hh:HandOk B Z E O D fv fs w0 H caps h) {F:FuncId} {mc:Array Value} {kind:Int} (hm:MerOk Z E O w0 F mc kind) {us:List VN} {a0:Value} (ha:Rep w0 us a0) (hrd:∀w,FrH Z E O w0 w->Reads2 w0 w)
  {mb ab hb:Nat} (e1:mb≠E/\mb≠O) (e2:ab≠E/\ab≠O) (e3:hb≠E/\hb≠O) (q1:w0.cell? ⟨mb,0,none⟩=some (.func (.func F) #[] mc)) (q2:w0.cell? ⟨ab,0,none⟩=some a0) (q3:w0.cell? ⟨hb,0,none⟩=some (X9 H caps)):
  HandOk B Z E O D fv fs w0 149 #[.pointer (some ⟨mb,0,none⟩), .pointer (some ⟨ab,0,none⟩), .pointer (some ⟨hb,0,none⟩)] (fun b=>Yk (Yy kind us b) h):=by
 refine ⟨fun x w=>by kernel_rfl,fun ns st hv=>Xhn hh.le (Xhh ha.1 hv) st,fun w hf st y ns hst1 hst hy=> ?_⟩
 show Calls Tryz.prog 149 #[y, .pointer (some ⟨mb,0,none⟩), .pointer (some ⟨ab,0,none⟩), .pointer (some ⟨hb,0,none⟩)] w _
 show Calls _ _ _ _ (Y6 B Z E O fv fs (Yk (Yy kind us ns) h st) w)
 have q:=ha.reads (hrd w hf)
 have M:=Xa (hh.on hf)
 have s:=Xa hst
 have P:=Xa (hm.says w hf hst.ev.errs.now.two us ns a0 y q hy)
 have G:=Xa hm.enter
 have X:=hf.cell mb 0 _ e1.1 e1.2 (by intro e;cases e) q1
 have J:=hf.cell hb 0 _ e3.1 e3.2 (by intro e;cases e) q3
 obtain ⟨t0,y0,rfl⟩:=ha.iface
 have Y:=hf.cell ab 0 _ e2.1 e2.2 (by intro e;cases e) q2
 obtain ⟨ty,y1,rfl⟩:=hy.iface
 have l3:=X7 J
 obtain ⟨R,S⟩:∃R,Yy kind us ns=R:=⟨_,rfl⟩
 obtain ⟨Q,L⟩:∃Q,Yk R h st=Q:=⟨_,rfl⟩
 have T:=Xa L
 rw[S] at P|-
 rw[L]
 clear S L hh hm ha q hrd hf hst hy q1 q2 q3 e1 e2 e3
 go_enter Tryz.func149,Tryz.ntmps149
 go_wp2_with fail
 rw[G.out,Oper.upon_enter]
 refine P.out.mono ?_
 rintro e w1 ⟨t,j⟩
 have z:=Xa j
 have m3:=(Xc j l3).trans J
 clear X Y J j
 rcases t with ⟨h0,u,rfl,hr⟩|⟨h0,v,rfl,hr⟩
 ·have c:=Xa (Vh M.out s.out hst1 z.out (.inl ⟨h0,rfl,hr⟩))
  obtain ⟨tu,yu,rfl⟩:=hr.iface
  rw[T.out] at c
  clear h0 hr
  go_wp2_with fail
  refine c.out.mono ?_
  rintro e w2 ⟨⟨ev,rfl,d⟩,f,g⟩
  have l:=Xa d
  have o:=Xa f
  have p:=Xa g
  clear d f g
  go_wp2_with fail
  go_ret
  exact ⟨⟨_,rfl,l.out⟩,o.out,p.out⟩
 ·have c:=Xa (Vh M.out s.out hst1 z.out (.inr ⟨h0,rfl,hr⟩))
  obtain ⟨te,xe,rfl,_⟩:=hr
  rw[T.out] at c
  obtain ⟨C,V⟩:∃C,R.1=C:=⟨_,rfl⟩
  rw[V] at c|-
  clear h0 V
  go_wp2_with fail
  refine c.out.mono ?_
  rintro e w2 ⟨⟨ev,rfl,d⟩,f,g⟩
  have l:=Xa d
  have o:=Xa f
  have p:=Xa g
  clear d f g
  go_wp2_with fail
  go_ret
  exact ⟨⟨_,rfl,l.out⟩,o.out,p.out⟩
theorem Xnu {B Z E O D:Nat} {fv:Value} {fs:List FN} {d:Nat} (hok:okF fs=true) (ho:Jb B E fv fs d) {x:FN} (hx:NodeOk fs x) (h2:x.kids.length=2) {kc kn ki:Value} {H:FuncId} {caps:Array Value} {h:X6} {w0:World} (hh:HandOk B Z E O D fv fs w0 H caps h) (hD:D<=d) (hBE:B<=E) (hBZ:B<=Z)
  {F:FuncId} {mc:Array Value} {kind:Int} (hm:MerOk Z E O w0 F mc kind) {vs:List VN} {v0:Value} (hv0:Rep w0 vs v0) (hrd:∀w,FrH Z E O w0 w->Reads2 w0 w) (hZ:Z<=w0.heap.size) (hOl:O<w0.heap.size) (hEl:E<w0.heap.size)
  {eb nb vb mb hb:Nat} (e1:eb≠E/\eb≠O) (e2:nb≠E/\nb≠O) (e4:vb≠E/\vb≠O) (e5:mb≠E/\mb≠O) (e3:hb≠E/\hb≠O) (q1:w0.cell? ⟨eb,0,none⟩=some (.pointer (some ⟨E,0,none⟩))) (q2:NodeBox B w0 nb x kc kn ki) (q4:w0.cell? ⟨vb,0,none⟩=some v0) (q5:w0.cell? ⟨mb,0,none⟩=some (.func (.func F) #[] mc)) (q3:w0.cell? ⟨hb,0,none⟩=some (X9 H caps)):
  HandOk B Z E O D fv fs w0 148 #[.pointer (some ⟨eb,0,none⟩), .pointer (some ⟨nb,0,none⟩), .pointer (some ⟨vb,0,none⟩), .pointer (some ⟨mb,0,none⟩), .pointer (some ⟨hb,0,none⟩)] (fun a=>Xp (Xh fs d) (Xk x 1) vs (fun b=>Yk (Yy kind a b) h)):=by
 refine ⟨fun x w=>by kernel_rfl,fun ns st hv=>Xbe hok d (fun ms st hm'=>Xhn hh.le (Xhh hv hm') st) _ hv0.1 st,fun w hf st y ns hst1 hst hy=> ?_⟩
 show Calls Tryz.prog 148 #[y, .pointer (some ⟨eb,0,none⟩), .pointer (some ⟨nb,0,none⟩), .pointer (some ⟨vb,0,none⟩), .pointer (some ⟨mb,0,none⟩), .pointer (some ⟨hb,0,none⟩)] w _
 show Calls _ _ _ _ (Y6 B Z E O fv fs (Xp (Xh fs d) (Xk x 1) vs (fun b=>Yk (Yy kind ns b) h) st) w)
 have l:=hv0.reads (hrd w hf)
 have k1:=hf.cell eb 0 _ e1.1 e1.2 (by intro e;cases e) q1
 have T:=hf.cell hb 0 _ e3.1 e3.2 (by intro e;cases e) q3
 have V:=hf.cell mb 0 _ e5.1 e5.2 (by intro e;cases e) q5
 obtain ⟨X,Y,rfl⟩:=hv0.iface
 have k6:=hf.cell vb 0 _ e4.1 e4.2 (by intro e;cases e) q4
 have p:=q2.on hf e2.1 e2.2 hBE hBZ
 have k2:=p.c5
 obtain ⟨kb,ko,ba,rfl,bb,k4⟩:=p.inn.kids.get (j:=1) (by omega)
 rw[h2] at k2
 have bc:=hf.size
 obtain ⟨o,g⟩:∃o,w.alloc (.cells #[y] 52)=o:=⟨_,rfl⟩
 have c:Below w.heap.size w o:=by rw[<-g];exact (Below.refl _ _).alloc (Nat.le_refl _) _
 have f:FrH Z E O w o:= .of_below c hst.hZ
 have s:=hy.below c
 have n1:o.cell? ⟨w.heap.size,0,none⟩=some y:=by rw[<-g];simp
 have n3:=f.cell hb 0 _ e3.1 e3.2 (by intro e;cases e) T
 have n7:=f.cell mb 0 _ e5.1 e5.2 (by intro e;cases e) V
 have t:=Xl0 (hh.on (hf.trans f)) (hm.on (hf.trans f)) s (fun w' h'=>(hst.below c).reads h') (mb:=mb) (ab:=w.heap.size) (hb:=hb) e5 ⟨by omega,by omega⟩ e3 n7 n1 n3
 have z:Hid (∀W,Below o.heap.size o W->Calls Tryz.prog 110 #[.pointer (some ⟨E,0,none⟩), .int .i64 (Xk x 1), .iface X Y,X9 149 #[.pointer (some ⟨mb,0,none⟩), .pointer (some ⟨w.heap.size,0,none⟩), .pointer (some ⟨hb,0,none⟩)]] W fun e w'=>(∃v,e= .returned v/\Km w' (Xp (Xh fs d) (Xk x 1) vs (fun b=>Yk (Yy kind ns b) h) st).1 v)/\FrH Z E O o w'/\St B Z E O fv fs (Xp (Xh fs d) (Xk x 1) vs (fun b=>Yk (Yy kind ns b) h) st).2 w'):=fun W hb=>Qw hok ho (hx.kid 1 (by omega)) t (hst.below c) (l.below c) (by omega) hst1 hb
 have M:=Xa f
 obtain ⟨ty,y1,rfl⟩:=hy.iface
 obtain ⟨R,P⟩:∃R,Xp (Xh fs d) (Xk x 1) vs (fun b=>Yk (Yy kind ns b) h) st=R:=⟨_,rfl⟩
 obtain ⟨L,q⟩:∃L,Xk x 1=L:=⟨_,rfl⟩
 have k5:w.cell? ⟨kb,ko+1,none⟩=some (.int .i64 L):=by rw[<-q];exact k4
 rw[P,q] at z
 rw[P]
 have l1:=X7 k1
 have l2:=X7 k2
 have l5:=X7 k5
 have l6:=X7 k6
 have HW:=Xa g
 clear hf hst hv0 l hrd p T V k4 P q hh hm t q1 q2 q3 q4 q5 e1 e2 e3 e4 e5 ho hx hok n1 n3 n7 hy s f c g
 go_enter Tryz.func148,Tryz.ntmps148
 go_wp2_with fail
 go_region_law (refine Q5 (by rfl) 110 _ _ _ _ _ _ _ _ (by rfl) (.pointer (some ⟨E,0,none⟩)) (.int .i64 L) (.iface X Y) (X9 149 #[.pointer (some ⟨mb,0,none⟩), .pointer (some ⟨w.heap.size,0,none⟩), .pointer (some ⟨hb,0,none⟩)]) (by rfl) (by rfl) (by rfl) (by rfl) (Jv _ _ _ _) (z.out _ (by rw[<-HW.out];first|exact Below.refl _ _|exact (Below.refl _ _).drew)) ?_;rintro e w3 ⟨⟨ev,rfl,C⟩,G,J⟩;refine ⟨_,rfl, ?_⟩)
 all_goals
  have HF:=Xa (M.out.trans G)
  have HS:=Xa J
  have S:=Xa C
  clear G J C
  go_wp2_with fail
  go_ret
  exact ⟨⟨_,rfl,S.out⟩,HF.out,HS.out⟩


theorem Xj4 {B Z E O d:Nat} {fv:Value} {fs:List FN} (hok:okF fs=true) (ho:Jb B E fv fs d) {x:FN} (hx:NodeOk fs x) (k:x.kind=10) {kc kn ki v:Value} {ns:List VN} {H:FuncId} {caps:Array Value} {h:X6} {st:Xs} {w:World} (hin:FNodeIn B w x kc kn ki) (hh:HandOk B Z E O d fv fs w H caps h) (hst:St B Z E O fv fs st w) (hv:Rep w ns v) (hd:st.1<=d):
  Calls Tryz.prog 114 #[.pointer (some ⟨E,0,none⟩),Ym x kc kn ki,v,X9 H caps] w (Y6 B Z E O fv fs (Xp (Xh fs d) (Xk x 0) ns (fun y st=>if Xu y=true then h ns st else (0,st)) st) w):=by
 have HN:=Xa hin
 have HH:=Xa hh
 have bg:=Xa hst
 have HV:=Xa hv
 have HX:=Xa hx
 obtain ⟨_,G,J,rfl,_⟩:=hin.cst
 obtain ⟨_,_,L,M,rfl,_⟩:=hin.names
 obtain ⟨_,_,P,S,rfl,_⟩:=hin.kids
 obtain ⟨D,y,rfl⟩:=hv.iface
 have hO:=hst.hO
 have bh:=hst.hZ
 have bi:=hst.hEZ
 have hBZ:=hst.hBZ
 have bj:=hst.ev.hBE
 obtain ⟨c,b⟩:∃c,((w.alloc (.cells #[.int .i64 x.kind, .string x.name, .int .i64 x.place, .slice G x.cst.length J, .slice L x.names.length M, .slice P x.kids.length S] 84)).alloc (.cells #[.iface D y] 52)).alloc (.cells #[.func (.func H) #[] caps] 161)=c:=⟨_,rfl⟩
 have f:Hid (Below w.heap.size w c):=by rw[Hid,<-b];exact ((((Below.refl w.heap.size w).alloc (Nat.le_refl _) _).alloc (by simp<;>omega) _).alloc (by simp<;>omega) _)
 have l:Hid (FrH Z E O w c):= .of_below f.out hst.hZ
 have T:c.cell? ⟨w.heap.size,0,none⟩=some (.int .i64 x.kind):=by rw[<-b];rw[World.cell?_alloc_past _ _ _ (by simp<;>omega)];rw[World.cell?_alloc_past _ _ _ (by simp<;>omega)];rw[World.cell?_alloc_at _ _ _ _ (by simp)];rfl
 have V:c.cell? ⟨w.heap.size,1,none⟩=some (.string x.name):=by rw[<-b];rw[World.cell?_alloc_past _ _ _ (by simp<;>omega)];rw[World.cell?_alloc_past _ _ _ (by simp<;>omega)];rw[World.cell?_alloc_at _ _ _ _ (by simp)];rfl
 have X:c.cell? ⟨w.heap.size,2,none⟩=some (.int .i64 x.place):=by rw[<-b];rw[World.cell?_alloc_past _ _ _ (by simp<;>omega)];rw[World.cell?_alloc_past _ _ _ (by simp<;>omega)];rw[World.cell?_alloc_at _ _ _ _ (by simp)];rfl
 have Y:c.cell? ⟨w.heap.size,3,none⟩=some (.slice G x.cst.length J):=by rw[<-b];rw[World.cell?_alloc_past _ _ _ (by simp<;>omega)];rw[World.cell?_alloc_past _ _ _ (by simp<;>omega)];rw[World.cell?_alloc_at _ _ _ _ (by simp)];rfl
 have ba:c.cell? ⟨w.heap.size,4,none⟩=some (.slice L x.names.length M):=by rw[<-b];rw[World.cell?_alloc_past _ _ _ (by simp<;>omega)];rw[World.cell?_alloc_past _ _ _ (by simp<;>omega)];rw[World.cell?_alloc_at _ _ _ _ (by simp)];rfl
 have bb:c.cell? ⟨w.heap.size,5,none⟩=some (.slice P x.kids.length S):=by rw[<-b];rw[World.cell?_alloc_past _ _ _ (by simp<;>omega)];rw[World.cell?_alloc_past _ _ _ (by simp<;>omega)];rw[World.cell?_alloc_at _ _ _ _ (by simp)];rfl
 have bk:Hid (NodeBox B c (w.heap.size) x (.slice G x.cst.length J) (.slice L x.names.length M) (.slice P x.kids.length S)):=⟨T,V,X,Y,ba,bb,hin.below (f.out.mono (by omega))⟩
 have cv:c.cell? ⟨w.heap.size+1,0,none⟩=some (.iface D y):=by rw[<-b];rw[World.cell?_alloc_past _ _ _ (by simp<;>omega)];rw[World.cell?_alloc_at _ _ _ _ (by simp)];rfl
 have ch:c.cell? ⟨w.heap.size+2,0,none⟩=some (.func (.func H) #[] caps):=by rw[<-b];rw[World.cell?_alloc_at _ _ _ _ (by simp)];rfl
 have o:Hid (St B Z E O fv fs st c):=hst.below f.out
 have p:=Xa (HV.out.below f.out)
 have bc:=Xa (hh.on l.out)
 have bl:c.heap.size=w.heap.size+3:=by rw[<-b];simp
 obtain ⟨kb,ko,be,ek,bm,k4⟩:=(hin.below (f.out.mono (by omega))).kids.get (j:=0) (by first|(have:=hx.one (.inl k);omega)|(have:=hx.three k;omega))
 injection ek with ek1 ek2 ek3
 subst ek1 ek3
 have q:=Xa (Xro bc.out p.out ⟨by omega,by omega⟩ ⟨by omega,by omega⟩ ch cv (fun w' hf=>o.out.reads hf))
 obtain ⟨R,hR⟩:∃R,Xp (Xh fs d) (Xk x 0) ns (fun y st=>if Xu y=true then h ns st else (0,st)) st=R:=⟨_,rfl⟩
 have s:Hid (∀W,Below c.heap.size c W->Calls Tryz.prog 110 #[.pointer (some ⟨E,0,none⟩), .int .i64 (Xk x 0), .iface D y,X9 145 #[.pointer (some ⟨w.heap.size+2,0,none⟩), .pointer (some ⟨w.heap.size+1,0,none⟩)]] W fun e w'=>(∃v,e= .returned v/\Km w' R.1 v)/\FrH Z E O c w'/\St B Z E O fv fs R.2 w'):=fun W hb=>by
  rw[<-hR]
  exact Qw hok ho (hx.kid 0 (by first|(have:=hx.one (.inl k);omega)|(have:=hx.three k;omega))) q.out o.out p.out hd hd hb
 rw[hR]
 obtain ⟨F,g⟩:∃F,Xk x 0=F:=⟨_,rfl⟩
 have k5:c.cell? ⟨kb,ko,none⟩=some (.int .i64 F):=by rw[<-g];unfold Xk;simpa using k4
 rw[g] at s
 have bn:0<x.kids.length:=by have:=hx.one (.inl k);omega
 have bf:(0:Int)<(x.kids.length:Int):=by omega
 have bo:kb<w.heap.size:=by omega
 have bp:=Xa b
 clear hin hh hst hv hx hok ho hR g k4 q k
 go_enter Tryz.func114,Tryz.ntmps114
 go_wp2_with fail
 go_region_law (refine Q5 (by rfl) 110 _ _ _ _ _ _ _ _ (by rfl) (.pointer (some ⟨E,0,none⟩)) (.int .i64 F) (.iface D y) (X9 145 #[.pointer (some ⟨w.heap.size+2,0,none⟩), .pointer (some ⟨w.heap.size+1,0,none⟩)]) (by rfl) (by rfl) (by rfl) (by rfl) (Jv _ _ _ _) (s.out _ (by first|exact Below.refl _ _|exact (Below.refl _ _).drew)) ?_;rintro e w4 ⟨⟨ev,rfl,t⟩,z,C⟩;refine ⟨_,rfl, ?_⟩)
 all_goals
  have HF:=Xa (l.out.trans z)
  have HS:=Xa C
  have bd:=Xa t
  clear z C t
  go_wp2_with fail
  go_ret
  exact ⟨⟨_,rfl,bd.out⟩,HF.out,HS.out⟩
theorem Xue {B Z E O d:Nat} {fv:Value} {fs:List FN} (hok:okF fs=true) (ho:Jb B E fv fs d) {x:FN} (hx:NodeOk fs x) (k:x.kind=22) {kc kn ki v:Value} {ns:List VN} {H:FuncId} {caps:Array Value} {h:X6} {st:Xs} {w:World} (hin:FNodeIn B w x kc kn ki) (hh:HandOk B Z E O d fv fs w H caps h) (hst:St B Z E O fv fs st w) (hv:Rep w ns v) (hd:st.1<=d):
  Calls Tryz.prog 117 #[.pointer (some ⟨E,0,none⟩),Ym x kc kn ki,v,X9 H caps] w (Y6 B Z E O fv fs (Xp (Xh fs d) (Xk x 0) ns (fun y=>if Xu y=true then Xp (Xh fs d) (Xk x 1) ns h else Xp (Xh fs d) (Xk x 2) ns h) st) w):=by
 have HN:=Xa hin
 have HH:=Xa hh
 have bi:=Xa hst
 have HV:=Xa hv
 have HX:=Xa hx
 obtain ⟨_,G,J,rfl,_⟩:=hin.cst
 obtain ⟨_,_,L,M,rfl,_⟩:=hin.names
 obtain ⟨_,_,P,S,rfl,_⟩:=hin.kids
 obtain ⟨D,y,rfl⟩:=hv.iface
 have hO:=hst.hO
 have bj:=hst.hZ
 have bk:=hst.hEZ
 have hBZ:=hst.hBZ
 have T:=hst.ev.hBE
 obtain ⟨c,b⟩:∃c,(((w.alloc (.cells #[.pointer (some ⟨E,0,none⟩)] 103)).alloc (.cells #[.int .i64 x.kind, .string x.name, .int .i64 x.place, .slice G x.cst.length J, .slice L x.names.length M, .slice P x.kids.length S] 84)).alloc (.cells #[.iface D y] 52)).alloc (.cells #[.func (.func H) #[] caps] 161)=c:=⟨_,rfl⟩
 have f:Hid (Below w.heap.size w c):=by rw[Hid,<-b];exact (((((Below.refl w.heap.size w).alloc (Nat.le_refl _) _).alloc (by simp<;>omega) _).alloc (by simp<;>omega) _).alloc (by simp<;>omega) _)
 have l:Hid (FrH Z E O w c):= .of_below f.out hst.hZ
 have ce:c.cell? ⟨w.heap.size,0,none⟩=some (.pointer (some ⟨E,0,none⟩)):=by rw[<-b];rw[World.cell?_alloc_past _ _ _ (by simp<;>omega)];rw[World.cell?_alloc_past _ _ _ (by simp<;>omega)];rw[World.cell?_alloc_past _ _ _ (by simp<;>omega)];rw[World.cell?_alloc_at _ _ _ _ (by simp)];rfl
 have V:c.cell? ⟨w.heap.size+1,0,none⟩=some (.int .i64 x.kind):=by rw[<-b];rw[World.cell?_alloc_past _ _ _ (by simp<;>omega)];rw[World.cell?_alloc_past _ _ _ (by simp<;>omega)];rw[World.cell?_alloc_at _ _ _ _ (by simp)];rfl
 have X:c.cell? ⟨w.heap.size+1,1,none⟩=some (.string x.name):=by rw[<-b];rw[World.cell?_alloc_past _ _ _ (by simp<;>omega)];rw[World.cell?_alloc_past _ _ _ (by simp<;>omega)];rw[World.cell?_alloc_at _ _ _ _ (by simp)];rfl
 have Y:c.cell? ⟨w.heap.size+1,2,none⟩=some (.int .i64 x.place):=by rw[<-b];rw[World.cell?_alloc_past _ _ _ (by simp<;>omega)];rw[World.cell?_alloc_past _ _ _ (by simp<;>omega)];rw[World.cell?_alloc_at _ _ _ _ (by simp)];rfl
 have ba:c.cell? ⟨w.heap.size+1,3,none⟩=some (.slice G x.cst.length J):=by rw[<-b];rw[World.cell?_alloc_past _ _ _ (by simp<;>omega)];rw[World.cell?_alloc_past _ _ _ (by simp<;>omega)];rw[World.cell?_alloc_at _ _ _ _ (by simp)];rfl
 have bb:c.cell? ⟨w.heap.size+1,4,none⟩=some (.slice L x.names.length M):=by rw[<-b];rw[World.cell?_alloc_past _ _ _ (by simp<;>omega)];rw[World.cell?_alloc_past _ _ _ (by simp<;>omega)];rw[World.cell?_alloc_at _ _ _ _ (by simp)];rfl
 have bc:c.cell? ⟨w.heap.size+1,5,none⟩=some (.slice P x.kids.length S):=by rw[<-b];rw[World.cell?_alloc_past _ _ _ (by simp<;>omega)];rw[World.cell?_alloc_past _ _ _ (by simp<;>omega)];rw[World.cell?_alloc_at _ _ _ _ (by simp)];rfl
 have bd:Hid (NodeBox B c (w.heap.size+1) x (.slice G x.cst.length J) (.slice L x.names.length M) (.slice P x.kids.length S)):=⟨V,X,Y,ba,bb,bc,hin.below (f.out.mono (by omega))⟩
 have cv:c.cell? ⟨w.heap.size+2,0,none⟩=some (.iface D y):=by rw[<-b];rw[World.cell?_alloc_past _ _ _ (by simp<;>omega)];rw[World.cell?_alloc_at _ _ _ _ (by simp)];rfl
 have ch:c.cell? ⟨w.heap.size+3,0,none⟩=some (.func (.func H) #[] caps):=by rw[<-b];rw[World.cell?_alloc_at _ _ _ _ (by simp)];rfl
 have o:Hid (St B Z E O fv fs st c):=hst.below f.out
 have p:=Xa (HV.out.below f.out)
 have be:=Xa (hh.on l.out)
 have bl:c.heap.size=w.heap.size+4:=by rw[<-b];simp
 obtain ⟨kb,ko,bg,ek,bm,k4⟩:=(hin.below (f.out.mono (by omega))).kids.get (j:=0) (by first|(have:=hx.one (.inl k);omega)|(have:=hx.three k;omega))
 injection ek with ek1 ek2 ek3
 subst ek1 ek3
 have q:=Xa (X2y hok ho hx (hx.three k) be.out (Nat.le_refl _) T (by omega) p.out (fun w' hf=>o.out.reads hf) ⟨by omega,by omega⟩ ⟨by omega,by omega⟩ ⟨by omega,by omega⟩ ⟨by omega,by omega⟩ ce bd.out cv ch)
 obtain ⟨R,hR⟩:∃R,Xp (Xh fs d) (Xk x 0) ns (fun y=>if Xu y=true then Xp (Xh fs d) (Xk x 1) ns h else Xp (Xh fs d) (Xk x 2) ns h) st=R:=⟨_,rfl⟩
 have s:Hid (∀W,Below c.heap.size c W->Calls Tryz.prog 110 #[.pointer (some ⟨E,0,none⟩), .int .i64 (Xk x 0), .iface D y,X9 153 #[.pointer (some ⟨w.heap.size,0,none⟩), .pointer (some ⟨w.heap.size+1,0,none⟩), .pointer (some ⟨w.heap.size+2,0,none⟩), .pointer (some ⟨w.heap.size+3,0,none⟩)]] W fun e w'=>(∃v,e= .returned v/\Km w' R.1 v)/\FrH Z E O c w'/\St B Z E O fv fs R.2 w'):=fun W hb=>by
  rw[<-hR]
  exact Qw hok ho (hx.kid 0 (by first|(have:=hx.one (.inl k);omega)|(have:=hx.three k;omega))) q.out o.out p.out hd hd hb
 rw[hR]
 obtain ⟨F,g⟩:∃F,Xk x 0=F:=⟨_,rfl⟩
 have k5:c.cell? ⟨kb,ko,none⟩=some (.int .i64 F):=by rw[<-g];unfold Xk;simpa using k4
 rw[g] at s
 have bn:0<x.kids.length:=by have:=hx.three k;omega
 have bh:(0:Int)<(x.kids.length:Int):=by omega
 have bo:kb<w.heap.size:=by omega
 have bp:=Xa b
 clear hin hh hst hv hx hok ho hR g k4 q k
 go_enter Tryz.func117,Tryz.ntmps117
 go_wp2_with fail
 go_region_law (refine Q5 (by rfl) 110 _ _ _ _ _ _ _ _ (by rfl) (.pointer (some ⟨E,0,none⟩)) (.int .i64 F) (.iface D y) (X9 153 #[.pointer (some ⟨w.heap.size,0,none⟩), .pointer (some ⟨w.heap.size+1,0,none⟩), .pointer (some ⟨w.heap.size+2,0,none⟩), .pointer (some ⟨w.heap.size+3,0,none⟩)]) (by rfl) (by rfl) (by rfl) (by rfl) (Jv _ _ _ _) (s.out _ (by first|exact Below.refl _ _|exact (Below.refl _ _).drew)) ?_;rintro e w4 ⟨⟨ev,rfl,t⟩,z,C⟩;refine ⟨_,rfl, ?_⟩)
 all_goals
  have HF:=Xa (l.out.trans z)
  have HS:=Xa C
  have bf:=Xa t
  clear z C t
  go_wp2_with fail
  go_ret
  exact ⟨⟨_,rfl,bf.out⟩,HF.out,HS.out⟩


theorem Xpd {B Z E O D:Nat} {fv:Value} {fs:List FN} {v:Value} {ns:List VN} {H:FuncId} {caps:Array Value} {h:X6} {st:Xs} {w:World} (hh:HandOk B Z E O D fv fs w H caps h) (hst:St B Z E O fv fs st w) (hv:Rep w ns v) (hD:st.1<=D):
  Calls Tryz.prog 109 #[v,X9 H caps] w (Y6 B Z E O fv fs (if (Xd ns).kind=5\/(Xd ns).kind=6 then Xq h (Yn ns) st else (2,st)) w):=by
 have Y:=Xa hh
 have d:=Xa hst
 have HE:Hid (∀w',Below w.heap.size w w'->Errs w'):=fun w' hb=>(hst.ev.errs.now.two.errs).below hb
 have HD:=Xa hD
 have y:(Yn ns).length<=1000:=by
  have p:=Xm hv.1
  have:=p.2.2.2 (ns.length-1) (by omega)
  rw[Qm];unfold Xe;omega
 rcases hv.cases with ⟨k,rfl⟩|⟨k,rfl⟩|⟨k,rfl⟩|⟨k,rfl⟩|⟨k,it,rfl,hi⟩|⟨k,ks,it,rfl,hs,hi⟩
 case inr.inr.inr.inr.inl=>
  rw[if_pos (.inl k)]
  have V:=Xa hi
  obtain ⟨_,a,c,rfl,_⟩:=hi
  obtain ⟨R,z⟩:∃R,Xq h (Yn ns) st=R:=⟨_,rfl⟩
  have g:Hid (∀W,Below w.heap.size w W->Calls Tryz.prog 141 #[.slice a (Yn ns).length c,X9 H caps] W (Y6 B Z E O fv fs R W)):=fun W hb=>by
   rw[<-z]
   exact Gt (Y.out.on (.of_below hb d.out.hZ)) (d.out.below hb) (V.out.reads (ButE.reads (.of_below (E:=E) hb) d.out.ev)) HD.out
  obtain ⟨M,J⟩:∃M,(Yn ns).length=M:=⟨_,rfl⟩
  rw[J] at g|-
  rw[z]
  clear hv hst hh k z J hD y
  go_enter Tryz.func109,Tryz.ntmps109
  go_wp2_with fail
  refine (V3 _ _ _ _).mono ?_
  rintro e w1 ⟨rfl,b⟩
  have j:=Xa b
  clear b
  go_wp2_with fail
  refine (Ka _ _ _ _).mono ?_
  rintro e S ⟨rfl,l⟩
  have f:=Xa (j.out.trans (l.mono j.out.size))
  clear l
  go_wp2_with fail
  refine (g.out S f.out).mono ?_
  rintro e T ⟨⟨ev,rfl,o⟩,q,s⟩
  have C:=Xa o
  have F:Hid (FrH Z E O w T):=(FrH.of_below f.out d.out.hZ).trans q
  have G:=Xa s
  clear o q s
  go_wp2_with fail
  go_ret
  exact ⟨⟨_,rfl,C.out⟩,F.out,G.out⟩
 case inr.inr.inr.inr.inr=>
  rw[if_pos (.inr k)]
  have V:=Xa hi
  obtain ⟨_,a,c,rfl,_⟩:=hi
  obtain ⟨_,_,a',c',rfl,_⟩:=hs
  obtain ⟨R,z⟩:∃R,Xq h (Yn ns) st=R:=⟨_,rfl⟩
  have g:Hid (∀W,Below w.heap.size w W->Calls Tryz.prog 141 #[.slice a (Yn ns).length c,X9 H caps] W (Y6 B Z E O fv fs R W)):=fun W hb=>by
   rw[<-z]
   exact Gt (Y.out.on (.of_below hb d.out.hZ)) (d.out.below hb) (V.out.reads (ButE.reads (.of_below (E:=E) hb) d.out.ev)) HD.out
  obtain ⟨M,J⟩:∃M,(Yn ns).length=M:=⟨_,rfl⟩
  rw[J] at g|-
  rw[z]
  obtain ⟨LK,L⟩:∃LK,(Xd ns).keys.length=LK:=⟨_,rfl⟩
  rw[L]
  clear hv hst hh k z J hD y L
  go_enter Tryz.func109,Tryz.ntmps109
  go_wp2_with fail
  refine (K3 _ _ _ _ _ _ _).mono ?_
  rintro e w1 ⟨rfl,b⟩
  have j:=Xa b
  clear b
  go_wp2_with fail
  refine (K3 _ _ _ _ _ _ _).mono ?_
  rintro e ba ⟨rfl,b⟩
  have t:=Xa (j.out.trans (b.mono j.out.size))
  clear b
  go_wp2_with fail
  refine (Ul _ _ _ _ _ _ _).mono ?_
  rintro e S ⟨rfl,l⟩
  have f:=Xa (t.out.trans (l.mono t.out.size))
  clear l
  go_wp2_with fail
  refine (g.out S f.out).mono ?_
  rintro e T ⟨⟨ev,rfl,o⟩,q,s⟩
  have C:=Xa o
  have F:Hid (FrH Z E O w T):=(FrH.of_below f.out d.out.hZ).trans q
  have G:=Xa s
  clear o q s
  go_wp2_with fail
  go_ret
  exact ⟨⟨_,rfl,C.out⟩,F.out,G.out⟩
 all_goals
  rw[if_neg (by omega)]
  clear hv hst hh k hD y
  go_enter Tryz.func109,Tryz.ntmps109
  go_wp2_with fail
  first
   |refine (Kw _).mono ?_
   |refine (Kx _ _).mono ?_
   |refine (Ky _ _).mono ?_
   |refine (Kz _ _).mono ?_
  rintro e w1 ⟨rfl,b⟩
  have j:=Xa b
  clear b
  go_wp2_with fail
  first
   |refine (Kw _).mono ?_
   |refine (Kx _ _).mono ?_
   |refine (Ky _ _).mono ?_
   |refine (Kz _ _).mono ?_
  rintro e S ⟨rfl,l⟩
  have f:=Xa (j.out.trans (l.mono j.out.size))
  clear l
  go_wp2_with fail
  refine (Zx _ (HE.out _ f.out)).mono ?_
  rintro e T ⟨⟨u,rfl,te,xe,rfl,P⟩,rfl⟩
  have X:=Xa P
  clear P
  go_wp2_with fail
  go_ret
  exact ⟨⟨_,rfl, .inr ⟨(show (2:Int)≠0 by decide),te,xe,rfl,X.out⟩⟩, .of_below f.out d.out.hZ,d.out.below f.out⟩
theorem Xrn {B Z E O d:Nat} {fv:Value} {fs:List FN} (hok:okF fs=true) (ho:Jb B E fv fs d) {x:FN} (hx:NodeOk fs x) (h1:x.kids.length=1) {kc kn ki v:Value} {ns:List VN} {H:FuncId} {caps:Array Value} {h:X6} {st:Xs} {w:World} (hin:FNodeIn B w x kc kn ki) (hh:HandOk B Z E O d fv fs w H caps h) (hst:St B Z E O fv fs st w) (hv:Rep w ns v) (hd:st.1<=d):
  Calls Tryz.prog 118 #[.pointer (some ⟨E,0,none⟩),Ym x kc kn ki,v,X9 H caps] w (Y6 B Z E O fv fs (Xar h (Zp (Xh fs d (Xk x 0).toNat ns st.1)) st.2) w):=by
 have HH:=Xa hh
 have s:=Xa hst
 obtain ⟨_,aC,cC,rfl,_⟩:=hin.cst
 obtain ⟨_,_,aK,cK,rfl,_⟩:=hin.names
 obtain ⟨kb,ko,F,rfl,be,k4⟩:=hin.kids.get (j:=0) (by omega)
 obtain ⟨ty,y,rfl⟩:=hv.iface
 have V:=hx.kid 0 (by omega)
 obtain ⟨D,o⟩:∃D:Nat,Xk x 0=(D:Int):=⟨(Xk x 0).toNat,by omega⟩
 have k5:w.cell? ⟨kb,ko,none⟩=some (.int .i64 (D:Int)):=by rw[<-o];unfold Xk;simpa using k4
 obtain ⟨r,T⟩:∃r,Zp (Xh fs d D ns st.1)=r:=⟨_,rfl⟩
 have b:(∀x∈r.l,okB x=true)/\r.fu<=st.1:=by rw[<-T];exact Xam (Ze hok d) D hv.1 st.1
 rw[o,Int.toNat_natCast,T]
 have p:Below w.heap.size w (w.alloc (.cells #[.int .i64 x.kind, .string x.name, .int .i64 x.place, .slice aC x.cst.length cC, .slice aK x.names.length cK, .slice (some ⟨kb,ko,none⟩) x.kids.length F] 84)):=(Below.refl _ _).alloc (Nat.le_refl _) _
 have q:=Xa p
 have t:=Xa (Xh7 ho D (.iface ty y) ns st.1 _ (by rw[o] at V;simpa using V.2) (hst.ev.below p) (hv.below p) hd)
 rw[T] at t
 have bf:=X7 k5
 obtain ⟨Q,X⟩:∃Q,Xar h r st.2=Q:=⟨_,rfl⟩
 have HQ:=Xa X
 have Y:Hid (r.fu<=d):=Nat.le_trans b.2 hd
 rw[X]
 rw[h1]
 rw[h1] at q t
 clear hh hst hin hv p T X k4 o V b ho hok hx hd h1
 go_enter Tryz.func118,Tryz.ntmps118
 go_wp2_with fail
 refine t.out.mono ?_
 rintro e w1 ⟨it,ev,rfl,G,hb,he⟩
 have J:=Xa ((s.out.below q.out).step hb he)
 have z:Hid (FrH Z E O w w1):=(FrH.of_below q.out s.out.hZ).trans (hb.frh (Nat.le_trans s.out.hZ q.out.size))
 clear hb he
 rcases G with ⟨h1,rfl,hit⟩|⟨h1,rfl,te,xe,rfl,hrs⟩
 ·have ba:=Xa hit
  obtain ⟨_,a,c,rfl,_⟩:=hit
  have f:Hid (Q=Xq h r.l (r.fu,st.2)):=by rw[Hid,<-HQ.out];unfold Xar;rw[if_pos h1]
  have g:=Xa (Gt (HH.out.on z.out) J.out ba.out Y.out)
  rw[<-f.out] at g
  obtain ⟨M,hM⟩:∃M,r.l.length=M:=⟨_,rfl⟩
  rw[hM] at g|-
  clear h1 hM
  go_wp2_with fail
  refine g.out.mono ?_
  rintro e w3 ⟨⟨ev,rfl,L⟩,P,R⟩
  have bb:=Xa L
  have bc:=Xa (z.out.trans P)
  have bd:=Xa R
  clear L P R
  go_wp2_with fail
  go_ret
  exact ⟨⟨_,rfl,bb.out⟩,bc.out,bd.out⟩
 ·have f:Hid (Q=(r.c,(r.fu,st.2))):=by rw[Hid,<-HQ.out];unfold Xar;rw[if_neg h1]
  have H1:=Xa h1
  have S:=Xa hrs
  obtain ⟨C,hC⟩:∃C,r.c=C:=⟨_,rfl⟩
  rw[hC] at H1 S f|-
  clear h1 hrs hC
  go_wp2_with fail
  go_ret
  exact ⟨⟨_,rfl, .inr (by rw[f.out];exact ⟨H1.out,te,xe,rfl,S.out⟩)⟩,z.out,by rw[f.out];exact J.out⟩
end Go.Proofs.YtdjddneidbddpaaGreatDoor
