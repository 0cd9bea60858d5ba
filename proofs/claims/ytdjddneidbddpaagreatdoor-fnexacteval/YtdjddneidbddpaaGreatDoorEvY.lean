import Derived.Test.YtdjddneidbddpaaGreatDoorSeM
import Derived.Test.YtdjddneidbddpaaGreatDoorEvZ
import Derived.Test.YtdjddneidbddpaaGreatDoorPsZ
import Derived.Test.YtdjddneidbddpaaGreatDoorEqS2
namespace Go.Proofs.YtdjddneidbddpaaGreatDoor
set_option linter.unusedSectionVars false
set_option maxHeartbeats 6400000
open Go.RowKit
set_option linter.unusedSimpArgs false
set_option linter.unusedVariables false
theorem IntsAt.get {B:Nat} {w:World} {ki:Value} {l:List Int} (h:IntsAt B w ki l) {j:Nat} (hj:j<l.length):∃b o c,ki= .slice (some ⟨b,o,none⟩) l.length c/\b<B/\w.cell? ⟨b,o+j,none⟩=some (.int .i64 (Xj l j)):=by
 obtain ⟨_,_,a,c,rfl,d⟩:=h
 obtain ⟨b,o,rfl,f,g⟩:=d (by omega)
 exact ⟨b,o,c,rfl,f,g j hj⟩
abbrev Ya (H:FuncId) (caps:Array Value):Value:= .func (.func H) #[] caps
theorem Jy (a b c d:Value) (w:World):(callFunc 110 #[a,b,c,d]).run Tryz.prog w= .ok (.enter 110 #[a,b,c,d]) w:=by kernel_rfl
theorem Qz {B Z E O D:Nat} {fv:Value} {fs:List FN} {d:Nat} (hok:okF fs=true) (ho:Je B E fv fs d) {H:FuncId} {caps:Array Value} {h:X7} {w W:World} {st:Xs} {n:Int} {ns:List VN} {v:Value} (hn:0<=n/\n.toNat<fs.length) (hh:HandOk B Z E O D fv fs w H caps h) (hst:St B Z E O fv fs st w) (hv:Rep w ns v) (hd:st.1<=d) (hD:st.1<=D) (hb:Below w.heap.size w W):
  Calls Tryz.prog 110 #[.pointer (some ⟨E,0,none⟩), .int .i64 n,v,Ya H caps] W fun e w'=>(∃v,e= .returned v/\Ko w' (Xp (Xh fs d) n ns h st).1 v)/\FrH Z E O w w'/\St B Z E O fv fs (Xp (Xh fs d) n ns h st).2 w':=
 (X1p ho hn (hh.on (.of_below hb hst.hZ)) (hst.below hb) (hv.below hb) hd hD (Zf hok d)).mono fun e w' k=>⟨k.1,(FrH.of_below hb hst.hZ).trans k.2.1,k.2.2⟩
theorem Xbi {fs:List FN} (hok:okF fs=true) (d:Nat) {h:X7} (hh:∀ns st,okB ns=true->(h ns st).2.1<=st.1) (n:Int) {ns:List VN} (hv:okB ns=true) (st:Xs):(Xp (Xh fs d) n ns h st).2.1<=st.1:=by
 have b:=Zf hok d
 have c:∀(l:List (List VN)) (st:Xs),(∀x∈l,okB x=true)->(Xq h l st).2.1<=st.1:=by
  intro l
  induction l with
  |nil=>intro st _;exact Nat.le_refl _
  | cons x r ih =>
   intro st f
   rw[Xq]
   have g:=hh x st (f x (by simp))
   split
   ·exact Nat.le_trans (ih _ fun y hy=>f y (by simp[hy])) g
   ·exact g
 unfold Xp
 split
 ·exact Nat.le_trans (c _ _ (b.ok _ _ _ hv)) (b.le _ _ _ hv)
 ·exact b.le _ _ _ hv
structure NodeBox (B:Nat) (w:World) (nb:Nat) (x:FN) (kc kn ki:Value):Prop where
 c0:w.cell? ⟨nb,0,none⟩=some (.int .i64 x.kind)
 c1:w.cell? ⟨nb,1,none⟩=some (.string x.name)
 c2:w.cell? ⟨nb,2,none⟩=some (.int .i64 x.place)
 c3:w.cell? ⟨nb,3,none⟩=some kc
 c4:w.cell? ⟨nb,4,none⟩=some kn
 c5:w.cell? ⟨nb,5,none⟩=some ki
 inn:FNodeIn B w x kc kn ki
theorem NodeBox.on {B Z E O:Nat} {w w':World} {nb:Nat} {x:FN} {kc kn ki:Value} (h:NodeBox B w nb x kc kn ki) (hf:FrH Z E O w w') (h1:nb≠E) (h2:nb≠O) (hB:B<=E) (hZ:B<=Z):NodeBox B w' nb x kc kn ki:=by
 obtain ⟨_,f,g,b,_⟩:=h.inn.cst
 obtain ⟨_,_,j,l,c,_⟩:=h.inn.names
 obtain ⟨_,_,o,p,d,_⟩:=h.inn.kids
 exact ⟨hf.cell _ _ _ h1 h2 (by intro e;cases e) h.c0,hf.cell _ _ _ h1 h2 (by intro e;cases e) h.c1,hf.cell _ _ _ h1 h2 (by intro e;cases e) h.c2,hf.cell _ _ _ h1 h2 (by rw[b];intro e;cases e) h.c3,hf.cell _ _ _ h1 h2 (by rw[c];intro e;cases e) h.c4,hf.cell _ _ _ h1 h2 (by rw[d];intro e;cases e) h.c5,h.inn.below (hf.below hB hZ)⟩
set_option maxRecDepth 100000 in
theorem Xym {B Z E O D:Nat} {fv:Value} {fs:List FN} {d:Nat} (hok:okF fs=true) (ho:Je B E fv fs d) {x:FN} (hx:NodeOk fs x) (h2:x.kids.length=2) {kc kn ki:Value} {H:FuncId} {caps:Array Value} {h:X7} {w0:World} (hh:HandOk B Z E O D fv fs w0 H caps h) (hD:D<=d) (hBE:B<=E) (hBZ:B<=Z)
  {eb nb hb:Nat} (e1:eb≠E/\eb≠O) (e2:nb≠E/\nb≠O) (e3:hb≠E/\hb≠O) (q1:w0.cell? ⟨eb,0,none⟩=some (.pointer (some ⟨E,0,none⟩))) (q2:NodeBox B w0 nb x kc kn ki) (q3:w0.cell? ⟨hb,0,none⟩=some (Ya H caps)):
  HandOk B Z E O D fv fs w0 111 #[.pointer (some ⟨eb,0,none⟩), .pointer (some ⟨nb,0,none⟩), .pointer (some ⟨hb,0,none⟩)] (fun y=>Xp (Xh fs d) (Xk x 1) y h):=by
 refine ⟨fun x w=>by kernel_rfl,fun ns st hv=>Xbi hok d hh.le _ hv st,fun w hf st v ns hst1 hst hv=> ?_⟩
 show Calls Tryz.prog 111 #[v, .pointer (some ⟨eb,0,none⟩), .pointer (some ⟨nb,0,none⟩), .pointer (some ⟨hb,0,none⟩)] w _
 have S:=hf.cell eb 0 _ e1.1 e1.2 (by intro e;cases e) q1
 have T:=hf.cell hb 0 _ e3.1 e3.2 (by intro e;cases e) q3
 have b:=q2.on hf e2.1 e2.2 hBE hBZ
 have C:=b.c5
 obtain ⟨F,G,t,rfl,J,z⟩:=b.inn.kids.get (j:=1) (by omega)
 rw[h2] at C
 have f:Hid (∀W,Below w.heap.size w W->Calls Tryz.prog 110 #[.pointer (some ⟨E,0,none⟩), .int .i64 (Xk x 1),v,Ya H caps] W fun e w'=>(∃v,e= .returned v/\Ko w' (Xp (Xh fs d) (Xk x 1) ns h st).1 v)/\FrH Z E O w w'/\St B Z E O fv fs (Xp (Xh fs d) (Xk x 1) ns h st).2 w'):=fun W hb=>Qz hok ho (hx.kid 1 (by omega)) (hh.on hf) hst hv (by omega) hst1 hb
 obtain ⟨L,y,rfl⟩:=hv.iface
 obtain ⟨R,q⟩:∃R,Xp (Xh fs d) (Xk x 1) ns h st=R:=⟨_,rfl⟩
 obtain ⟨p,c⟩:∃p,Xk x 1=p:=⟨_,rfl⟩
 have V:w.cell? ⟨F,G+1,none⟩=some (.int .i64 p):=by rw[<-c];exact z
 rw[q,c] at f
 show Calls _ _ _ _ (Y6 B Z E O fv fs (Xp (Xh fs d) (Xk x 1) ns h st) w)
 rw[q]
 clear hf hst hv b z q c hh q1 q2 q3 e1 e2 e3 ho hx hok
 go_enter Tryz.func111,Tryz.ntmps111
 go_wp2_with fail
 go_region_law (refine Q9 (by rfl) 110 _ _ _ _ _ _ _ _ (by rfl) (.pointer (some ⟨E,0,none⟩)) (.int .i64 p) (.iface L y) (Ya H caps) (by rfl) (by rfl) (by rfl) (by rfl) (Jy _ _ _ _) (f.out _ (by first|exact Below.refl _ _|exact (Below.refl _ _).drew)) ?_;rintro e X ⟨⟨Y,rfl,g⟩,l,o⟩;refine ⟨_,rfl, ?_⟩)
 all_goals
  have M:=Xa l
  have P:=Xa o
  have s:=Xa g
  clear l o g
  go_wp2_with fail
  go_ret
  exact ⟨⟨_,rfl,s.out⟩,M.out,P.out⟩
theorem Xht {h:X7} (hh:∀ns st,okB ns=true->(h ns st).2.1<=st.1) {r:Int×List VN} (hr:r.1=0->okB r.2=true) (st:Xs):(Yl r h st).2.1<=st.1:=by
 unfold Yl
 split
 ·rename_i e;exact hh _ _ (hr e)
 ·exact Nat.le_refl _
theorem Xyn {r:Int×List VN} (h0:r.1=0) (h:X7) (st:Xs):Yl r h st=h r.2 st:=by unfold Yl;rw[if_pos h0]
theorem X1s {r:Int×List VN} (h0:r.1≠0) (h:X7) (st:Xs):Yl r h st=(r.1,st):=by unfold Yl;rw[if_neg h0]
theorem Vk {B Z E O D:Nat} {fv:Value} {fs:List FN} {H:FuncId} {caps:Array Value} {h:X7} {w w1:World} {st:Xs} {r:Int×List VN} {u v:Value} (hh:HandOk B Z E O D fv fs w H caps h) (hst:St B Z E O fv fs st w) (hD:st.1<=D) (hb:Below w.heap.size w w1)
  (hr:(r.1=0/\v= .nilIface/\Rep w1 r.2 u)\/(r.1≠0/\u= .nilIface/\J8 w1 r.1 v)):
  Calls Tryz.prog 120 #[u,v,Ya H caps] w1 (fun e w'=>(∃v,e= .returned v/\Ko w' (Yl r h st).1 v)/\FrH Z E O w w'/\St B Z E O fv fs (Yl r h st).2 w'):=by
 have b:FrH Z E O w w1:= .of_below hb hst.hZ
 rcases hr with ⟨h0,rfl,hrep⟩|⟨h0,rfl,hv⟩
 ·rw[Xyn h0]
  exact (Xu9 (hh.on b) (hst.below hb) hrep hD).mono fun e w' k=>⟨k.1,b.trans k.2.1,k.2.2⟩
 ·rw[X1s h0]
  refine (Xyg .nilIface v (Ya H caps) w1 h0 (.inl rfl) hv).mono ?_
  rintro e w' ⟨rfl,rfl⟩
  exact ⟨⟨_,rfl, .inr ⟨h0,hv⟩⟩,b,hst.below hb⟩
set_option maxRecDepth 100000 in
theorem Xry {B Z E O D:Nat} {fv:Value} {fs:List FN} {H:FuncId} {caps:Array Value} {h:X7} {w0:World} (hh:HandOk B Z E O D fv fs w0 H caps h) {vs:List VN} {v0:Value} (hv0:Rep w0 vs v0) {hb vb:Nat} (e1:hb≠E/\hb≠O) (e2:vb≠E/\vb≠O) (q1:w0.cell? ⟨hb,0,none⟩=some (Ya H caps)) (q2:w0.cell? ⟨vb,0,none⟩=some v0)
  (hrd:∀w,FrH Z E O w0 w->Reads2 w0 w):
  HandOk B Z E O D fv fs w0 145 #[.pointer (some ⟨hb,0,none⟩), .pointer (some ⟨vb,0,none⟩)] (fun y st=>if Xu y=true then h vs st else (0,st)):=by
 refine ⟨fun x w=>by kernel_rfl,fun ns st hv=>by show (if Xu ns=true then h vs st else (0,st)).2.1<=st.1;split;exact hh.le _ _ hv0.1;exact Nat.le_refl _,fun w hf st x ns hst1 hst hx=> ?_⟩
 show Calls Tryz.prog 145 #[x, .pointer (some ⟨hb,0,none⟩), .pointer (some ⟨vb,0,none⟩)] w _
 have S:=Xa (hh.on hf)
 have p:=Xa (hv0.reads (hrd w hf))
 obtain ⟨V,X,rfl⟩:=hv0.iface
 have d:=Xa hst
 have q:=Xa (We ns x w hx)
 have s:=hf.cell hb 0 _ e1.1 e1.2 (by intro e;cases e) q1
 have t:=hf.cell vb 0 _ e2.1 e2.2 (by intro e;cases e) q2
 have z:=X9 s
 have C:=X9 t
 obtain ⟨Y,y,rfl⟩:=hx.iface
 obtain ⟨F,f⟩:∃F,Xu ns=F:=⟨_,rfl⟩
 show Calls _ _ _ _ (Y6 B Z E O fv fs (if Xu ns=true then h vs st else (0,st)) w)
 rw[f] at q|-
 clear hh hv0 hrd hf hst hx f q1 q2 e1 e2
 cases F
 ·rw[if_neg (by simp)]
  go_enter Tryz.func145,Tryz.ntmps145
  go_wp2_with fail
  refine q.out.mono ?_
  rintro e G ⟨rfl,b⟩
  have c:=Xa b
  clear b
  go_wp2_with fail
  go_ret
  exact ⟨⟨_,rfl, .inl ⟨rfl,rfl⟩⟩, .of_below c.out d.out.hZ,d.out.below c.out⟩
 ·rw[if_pos rfl]
  obtain ⟨R,J⟩:∃R,h vs st=R:=⟨_,rfl⟩
  have T:=Xa J
  rw[J]
  clear J
  go_enter Tryz.func145,Tryz.ntmps145
  go_wp2_with fail
  refine q.out.mono ?_
  rintro e G ⟨rfl,b⟩
  have c:=Xa b
  have g:Hid (FrH Z E O w G):= .of_below b d.out.hZ
  have m1:=(Xc b z).trans s
  have m2:=(Xc b C).trans t
  clear b s t
  go_wp2_with fail
  rw[S.out.enter,Oper.upon_enter]
  refine (S.out.says G g.out st _ vs hst1 (d.out.below c.out) (p.out.below c.out)).mono ?_
  rw[T.out]
  rintro e w2 ⟨⟨ev,rfl,j⟩,l,o⟩
  have L:=Xa j
  have M:=Xa (g.out.trans l)
  have P:=Xa o
  clear j l o
  go_wp2_with fail
  go_ret
  exact ⟨⟨_,rfl,L.out⟩,M.out,P.out⟩
set_option maxRecDepth 100000 in
theorem X1t {B Z E O D:Nat} {fv:Value} {fs:List FN} {H:FuncId} {caps:Array Value} {h:X7} {w0:World} (hh:HandOk B Z E O D fv fs w0 H caps h) {hb:Nat} (e1:hb≠E/\hb≠O) (q1:w0.cell? ⟨hb,0,none⟩=some (Ya H caps)):
  HandOk B Z E O D fv fs w0 152 #[.pointer (some ⟨hb,0,none⟩)] (Vd h):=by
 refine ⟨fun x w=>by kernel_rfl,fun ns st hv=>by unfold Vd;split;exact hh.le _ _ hv;exact Nat.le_refl _,fun w hf st x ns hst1 hst hx=> ?_⟩
 show Calls Tryz.prog 152 #[x, .pointer (some ⟨hb,0,none⟩)] w _
 have L:=Xa (hh.on hf)
 have d:=Xa hst
 have P:=Xa hx
 have q:=Xa (We ns x w hx)
 have s:=hf.cell hb 0 _ e1.1 e1.2 (by intro e;cases e) q1
 have t:=X9 s
 obtain ⟨T,y,rfl⟩:=hx.iface
 obtain ⟨p,f⟩:∃p,Xu ns=p:=⟨_,rfl⟩
 have M:Vd h ns st=if p=true then h ns st else (0,st):=by unfold Vd;rw[f]
 rw[M]
 rw[f] at q
 clear hh hf hst hx f q1 e1 M
 cases p
 ·rw[if_neg (by simp)]
  go_enter Tryz.func152,Tryz.ntmps152
  go_wp2_with fail
  refine q.out.mono ?_
  rintro e z ⟨rfl,b⟩
  have c:=Xa b
  clear b
  go_wp2_with fail
  go_ret
  exact ⟨⟨_,rfl, .inl ⟨rfl,rfl⟩⟩, .of_below c.out d.out.hZ,d.out.below c.out⟩
 ·rw[if_pos rfl]
  obtain ⟨R,C⟩:∃R,h ns st=R:=⟨_,rfl⟩
  have S:=Xa C
  rw[C]
  clear C
  go_enter Tryz.func152,Tryz.ntmps152
  go_wp2_with fail
  refine q.out.mono ?_
  rintro e z ⟨rfl,b⟩
  have c:=Xa b
  have g:Hid (FrH Z E O w z):= .of_below b d.out.hZ
  have V:=(Xc b t).trans s
  clear b s
  go_wp2_with fail
  rw[L.out.enter,Oper.upon_enter]
  refine (L.out.says z g.out st _ ns hst1 (d.out.below c.out) (P.out.below c.out)).mono ?_
  rw[S.out]
  rintro e X ⟨⟨Y,rfl,j⟩,l,o⟩
  have F:=Xa j
  have G:=Xa (g.out.trans l)
  have J:=Xa o
  clear j l o
  go_wp2_with fail
  go_ret
  exact ⟨⟨_,rfl,F.out⟩,G.out,J.out⟩


set_option maxRecDepth 100000 in
theorem X21 {B Z E O D:Nat} {fv:Value} {fs:List FN} {d:Nat} (hok:okF fs=true) (ho:Je B E fv fs d) {x:FN} (hx:NodeOk fs x) (h3:x.kids.length=3) {kc kn ki:Value} {H:FuncId} {caps:Array Value} {h:X7} {w0:World} (hh:HandOk B Z E O D fv fs w0 H caps h) (hD:D<=d) (hBE:B<=E) (hBZ:B<=Z)
  {vs:List VN} {v0:Value} (hv0:Rep w0 vs v0) (hrd:∀w,FrH Z E O w0 w->Reads2 w0 w)
  {eb nb vb hb:Nat} (e1:eb≠E/\eb≠O) (e2:nb≠E/\nb≠O) (e4:vb≠E/\vb≠O) (e3:hb≠E/\hb≠O) (q1:w0.cell? ⟨eb,0,none⟩=some (.pointer (some ⟨E,0,none⟩))) (q2:NodeBox B w0 nb x kc kn ki) (q4:w0.cell? ⟨vb,0,none⟩=some v0) (q3:w0.cell? ⟨hb,0,none⟩=some (Ya H caps)):
  HandOk B Z E O D fv fs w0 153 #[.pointer (some ⟨eb,0,none⟩), .pointer (some ⟨nb,0,none⟩), .pointer (some ⟨vb,0,none⟩), .pointer (some ⟨hb,0,none⟩)] (fun y=>if Xu y=true then Xp (Xh fs d) (Xk x 1) vs h else Xp (Xh fs d) (Xk x 2) vs h):=by
 refine ⟨fun x w=>by kernel_rfl,fun ns st hv=>by show ((if Xu ns=true then Xp (Xh fs d) (Xk x 1) vs h else Xp (Xh fs d) (Xk x 2) vs h) st).2.1<=st.1;split;exact Xbi hok d hh.le _ hv0.1 st;exact Xbi hok d hh.le _ hv0.1 st,fun w hf st y ns hst1 hst hy=> ?_⟩
 show Calls Tryz.prog 153 #[y, .pointer (some ⟨eb,0,none⟩), .pointer (some ⟨nb,0,none⟩), .pointer (some ⟨vb,0,none⟩), .pointer (some ⟨hb,0,none⟩)] w _
 show Calls _ _ _ _ (Y6 B Z E O fv fs ((if Xu ns=true then Xp (Xh fs d) (Xk x 1) vs h else Xp (Xh fs d) (Xk x 2) vs h) st) w)
 have Y:=Xa (We ns y w hy)
 have f:=hv0.reads (hrd w hf)
 have J:=hf.cell eb 0 _ e1.1 e1.2 (by intro e;cases e) q1
 have L:=hf.cell hb 0 _ e3.1 e3.2 (by intro e;cases e) q3
 obtain ⟨V,X,rfl⟩:=hv0.iface
 have M:=hf.cell vb 0 _ e4.1 e4.2 (by intro e;cases e) q4
 have g:=q2.on hf e2.1 e2.2 hBE hBZ
 have z:=g.c5
 obtain ⟨ty,y1,rfl⟩:=hy.iface
 obtain ⟨tb,P⟩:∃tb,Xu ns=tb:=⟨_,rfl⟩
 have bb:=Xa hst
 rw[P] at Y|-
 clear P hy
 cases tb
 ·rw[if_neg (by simp)]
  obtain ⟨kb,ko,S,rfl,ba,T⟩:=g.inn.kids.get (j:=2) (by omega)
  rw[h3] at z
  have l:Hid (∀W,Below w.heap.size w W->Calls Tryz.prog 110 #[.pointer (some ⟨E,0,none⟩), .int .i64 (Xk x 2),(.iface V X),Ya H caps] W fun e w'=>(∃v,e= .returned v/\Ko w' (Xp (Xh fs d) (Xk x 2) vs h st).1 v)/\FrH Z E O w w'/\St B Z E O fv fs (Xp (Xh fs d) (Xk x 2) vs h st).2 w'):=fun W hb=>Qz hok ho (hx.kid 2 (by omega)) (hh.on hf) hst f (by omega) hst1 hb
  obtain ⟨R,C⟩:∃R,Xp (Xh fs d) (Xk x 2) vs h st=R:=⟨_,rfl⟩
  obtain ⟨t,c⟩:∃t,Xk x 2=t:=⟨_,rfl⟩
  have F:w.cell? ⟨kb,ko+2,none⟩=some (.int .i64 t):=by rw[<-c];exact T
  rw[C,c] at l
  rw[C]
  have l1:=X9 J
  have l2:=X9 z
  have l3:=X9 L
  have l5:=X9 F
  have l6:=X9 M
  clear hf hst hv0 f hrd g T C c hh q1 q2 q3 q4 e1 e2 e3 e4 ho hx hok
  go_enter Tryz.func153,Tryz.ntmps153
  go_wp2_with fail
  refine Y.out.mono ?_
  rintro e w1 ⟨rfl,b⟩
  have o:=Xa b
  have m1:=(Xc b l1).trans J
  have m2:=(Xc b l2).trans z
  have m3:=(Xc b l3).trans L
  have m5:=(Xc b l5).trans F
  have m6:=(Xc b l6).trans M
  clear J z L F M b
  go_wp2_with fail
  go_region_law (refine Q9 (by rfl) 110 _ _ _ _ _ _ _ _ (by rfl) (.pointer (some ⟨E,0,none⟩)) (.int .i64 t) (.iface V X) (Ya H caps) (by rfl) (by rfl) (by rfl) (by rfl) (Jy _ _ _ _) (l.out _ (by first|exact o.out|exact o.out.drew)) ?_;rintro e w3 ⟨⟨ev,rfl,p⟩,q,s⟩;refine ⟨_,rfl, ?_⟩)
  all_goals
   have HF:=Xa q
   have HS:=Xa s
   have G:=Xa p
   clear q s p
   go_wp2_with fail
   go_ret
   exact ⟨⟨_,rfl,G.out⟩,HF.out,HS.out⟩
 ·rw[if_pos rfl]
  obtain ⟨kb,ko,S,rfl,ba,T⟩:=g.inn.kids.get (j:=1) (by omega)
  rw[h3] at z
  have l:Hid (∀W,Below w.heap.size w W->Calls Tryz.prog 110 #[.pointer (some ⟨E,0,none⟩), .int .i64 (Xk x 1),(.iface V X),Ya H caps] W fun e w'=>(∃v,e= .returned v/\Ko w' (Xp (Xh fs d) (Xk x 1) vs h st).1 v)/\FrH Z E O w w'/\St B Z E O fv fs (Xp (Xh fs d) (Xk x 1) vs h st).2 w'):=fun W hb=>Qz hok ho (hx.kid 1 (by omega)) (hh.on hf) hst f (by omega) hst1 hb
  obtain ⟨R,C⟩:∃R,Xp (Xh fs d) (Xk x 1) vs h st=R:=⟨_,rfl⟩
  obtain ⟨t,c⟩:∃t,Xk x 1=t:=⟨_,rfl⟩
  have F:w.cell? ⟨kb,ko+1,none⟩=some (.int .i64 t):=by rw[<-c];exact T
  rw[C,c] at l
  rw[C]
  have l1:=X9 J
  have l2:=X9 z
  have l3:=X9 L
  have l5:=X9 F
  have l6:=X9 M
  clear hf hst hv0 f hrd g T C c hh q1 q2 q3 q4 e1 e2 e3 e4 ho hx hok
  go_enter Tryz.func153,Tryz.ntmps153
  go_wp2_with fail
  refine Y.out.mono ?_
  rintro e w1 ⟨rfl,b⟩
  have o:=Xa b
  have m1:=(Xc b l1).trans J
  have m2:=(Xc b l2).trans z
  have m3:=(Xc b l3).trans L
  have m5:=(Xc b l5).trans F
  have m6:=(Xc b l6).trans M
  clear J z L F M b
  go_wp2_with fail
  go_region_law (refine Q9 (by rfl) 110 _ _ _ _ _ _ _ _ (by rfl) (.pointer (some ⟨E,0,none⟩)) (.int .i64 t) (.iface V X) (Ya H caps) (by rfl) (by rfl) (by rfl) (by rfl) (Jy _ _ _ _) (l.out _ (by first|exact o.out|exact o.out.drew)) ?_;rintro e w3 ⟨⟨ev,rfl,p⟩,q,s⟩;refine ⟨_,rfl, ?_⟩)
  all_goals
   have HF:=Xa q
   have HS:=Xa s
   have G:=Xa p
   clear q s p
   go_wp2_with fail
   go_ret
   exact ⟨⟨_,rfl,G.out⟩,HF.out,HS.out⟩
set_option maxRecDepth 100000 in
theorem Xl8 {B Z E O D:Nat} {fv:Value} {fs:List FN} {H:FuncId} {caps:Array Value} {h:X7} {w0:World} (hh:HandOk B Z E O D fv fs w0 H caps h) {F:FuncId} {mc:Array Value} {kind:Int} (hm:MerOk Z E O w0 F mc kind) {us:List VN} {a0:Value} (ha:Rep w0 us a0) (hrd:∀w,FrH Z E O w0 w->Reads2 w0 w)
  {mb ab hb:Nat} (e1:mb≠E/\mb≠O) (e2:ab≠E/\ab≠O) (e3:hb≠E/\hb≠O) (q1:w0.cell? ⟨mb,0,none⟩=some (.func (.func F) #[] mc)) (q2:w0.cell? ⟨ab,0,none⟩=some a0) (q3:w0.cell? ⟨hb,0,none⟩=some (Ya H caps)):
  HandOk B Z E O D fv fs w0 149 #[.pointer (some ⟨mb,0,none⟩), .pointer (some ⟨ab,0,none⟩), .pointer (some ⟨hb,0,none⟩)] (fun b=>Yl (Yz kind us b) h):=by
 refine ⟨fun x w=>by kernel_rfl,fun ns st hv=>Xht hh.le (Xhn ha.1 hv) st,fun w hf st y ns hst1 hst hy=> ?_⟩
 show Calls Tryz.prog 149 #[y, .pointer (some ⟨mb,0,none⟩), .pointer (some ⟨ab,0,none⟩), .pointer (some ⟨hb,0,none⟩)] w _
 show Calls _ _ _ _ (Y6 B Z E O fv fs (Yl (Yz kind us ns) h st) w)
 have q:=ha.reads (hrd w hf)
 have M:=Xa (hh.on hf)
 have s:=Xa hst
 have P:=Xa (hm.says w hf hst.ev.errs.now.two us ns a0 y q hy)
 have G:=Xa hm.enter
 have X:=hf.cell mb 0 _ e1.1 e1.2 (by intro e;cases e) q1
 have J:=hf.cell hb 0 _ e3.1 e3.2 (by intro e;cases e) q3
 obtain ⟨t0,y0,rfl⟩:=ha.iface
 have Y:=hf.cell ab 0 _ e2.1 e2.2 (by intro e;cases e) q2
 obtain ⟨ty,y1,rfl⟩:=hy.iface
 have l3:=X9 J
 obtain ⟨R,S⟩:∃R,Yz kind us ns=R:=⟨_,rfl⟩
 obtain ⟨Q,L⟩:∃Q,Yl R h st=Q:=⟨_,rfl⟩
 have T:=Xa L
 rw[S] at P|-
 rw[L]
 clear S L hh hm ha q hrd hf hst hy q1 q2 q3 e1 e2 e3
 go_enter Tryz.func149,Tryz.ntmps149
 go_wp2_with fail
 rw[G.out,Oper.upon_enter]
 refine P.out.mono ?_
 rintro e w1 ⟨t,j⟩
 have z:=Xa j
 have m3:=(Xc j l3).trans J
 clear X Y J j
 rcases t with ⟨h0,u,rfl,hr⟩|⟨h0,v,rfl,hr⟩
 ·have c:=Xa (Vk M.out s.out hst1 z.out (.inl ⟨h0,rfl,hr⟩))
  obtain ⟨tu,yu,rfl⟩:=hr.iface
  rw[T.out] at c
  clear h0 hr
  go_wp2_with fail
  refine c.out.mono ?_
  rintro e w2 ⟨⟨ev,rfl,d⟩,f,g⟩
  have l:=Xa d
  have o:=Xa f
  have p:=Xa g
  clear d f g
  go_wp2_with fail
  go_ret
  exact ⟨⟨_,rfl,l.out⟩,o.out,p.out⟩
 ·have c:=Xa (Vk M.out s.out hst1 z.out (.inr ⟨h0,rfl,hr⟩))
  obtain ⟨te,xe,rfl,_⟩:=hr
  rw[T.out] at c
  obtain ⟨C,V⟩:∃C,R.1=C:=⟨_,rfl⟩
  rw[V] at c|-
  clear h0 V
  go_wp2_with fail
  refine c.out.mono ?_
  rintro e w2 ⟨⟨ev,rfl,d⟩,f,g⟩
  have l:=Xa d
  have o:=Xa f
  have p:=Xa g
  clear d f g
  go_wp2_with fail
  go_ret
  exact ⟨⟨_,rfl,l.out⟩,o.out,p.out⟩
set_option maxRecDepth 100000 in
theorem Xn2 {B Z E O D:Nat} {fv:Value} {fs:List FN} {d:Nat} (hok:okF fs=true) (ho:Je B E fv fs d) {x:FN} (hx:NodeOk fs x) (h2:x.kids.length=2) {kc kn ki:Value} {H:FuncId} {caps:Array Value} {h:X7} {w0:World} (hh:HandOk B Z E O D fv fs w0 H caps h) (hD:D<=d) (hBE:B<=E) (hBZ:B<=Z)
  {F:FuncId} {mc:Array Value} {kind:Int} (hm:MerOk Z E O w0 F mc kind) {vs:List VN} {v0:Value} (hv0:Rep w0 vs v0) (hrd:∀w,FrH Z E O w0 w->Reads2 w0 w) (hZ:Z<=w0.heap.size) (hOl:O<w0.heap.size) (hEl:E<w0.heap.size)
  {eb nb vb mb hb:Nat} (e1:eb≠E/\eb≠O) (e2:nb≠E/\nb≠O) (e4:vb≠E/\vb≠O) (e5:mb≠E/\mb≠O) (e3:hb≠E/\hb≠O) (q1:w0.cell? ⟨eb,0,none⟩=some (.pointer (some ⟨E,0,none⟩))) (q2:NodeBox B w0 nb x kc kn ki) (q4:w0.cell? ⟨vb,0,none⟩=some v0) (q5:w0.cell? ⟨mb,0,none⟩=some (.func (.func F) #[] mc)) (q3:w0.cell? ⟨hb,0,none⟩=some (Ya H caps)):
  HandOk B Z E O D fv fs w0 148 #[.pointer (some ⟨eb,0,none⟩), .pointer (some ⟨nb,0,none⟩), .pointer (some ⟨vb,0,none⟩), .pointer (some ⟨mb,0,none⟩), .pointer (some ⟨hb,0,none⟩)] (fun a=>Xp (Xh fs d) (Xk x 1) vs (fun b=>Yl (Yz kind a b) h)):=by
 refine ⟨fun x w=>by kernel_rfl,fun ns st hv=>Xbi hok d (fun ms st hm'=>Xht hh.le (Xhn hv hm') st) _ hv0.1 st,fun w hf st y ns hst1 hst hy=> ?_⟩
 show Calls Tryz.prog 148 #[y, .pointer (some ⟨eb,0,none⟩), .pointer (some ⟨nb,0,none⟩), .pointer (some ⟨vb,0,none⟩), .pointer (some ⟨mb,0,none⟩), .pointer (some ⟨hb,0,none⟩)] w _
 show Calls _ _ _ _ (Y6 B Z E O fv fs (Xp (Xh fs d) (Xk x 1) vs (fun b=>Yl (Yz kind ns b) h) st) w)
 have l:=hv0.reads (hrd w hf)
 have k1:=hf.cell eb 0 _ e1.1 e1.2 (by intro e;cases e) q1
 have T:=hf.cell hb 0 _ e3.1 e3.2 (by intro e;cases e) q3
 have V:=hf.cell mb 0 _ e5.1 e5.2 (by intro e;cases e) q5
 obtain ⟨X,Y,rfl⟩:=hv0.iface
 have k6:=hf.cell vb 0 _ e4.1 e4.2 (by intro e;cases e) q4
 have p:=q2.on hf e2.1 e2.2 hBE hBZ
 have k2:=p.c5
 obtain ⟨kb,ko,ba,rfl,bb,k4⟩:=p.inn.kids.get (j:=1) (by omega)
 rw[h2] at k2
 have bc:=hf.size
 obtain ⟨o,g⟩:∃o,w.alloc (.cells #[y] 52)=o:=⟨_,rfl⟩
 have c:Below w.heap.size w o:=by rw[<-g];exact (Below.refl _ _).alloc (Nat.le_refl _) _
 have f:FrH Z E O w o:= .of_below c hst.hZ
 have s:=hy.below c
 have n1:o.cell? ⟨w.heap.size,0,none⟩=some y:=by rw[<-g];simp
 have n3:=f.cell hb 0 _ e3.1 e3.2 (by intro e;cases e) T
 have n7:=f.cell mb 0 _ e5.1 e5.2 (by intro e;cases e) V
 have t:=Xl8 (hh.on (hf.trans f)) (hm.on (hf.trans f)) s (fun w' h'=>(hst.below c).reads h') (mb:=mb) (ab:=w.heap.size) (hb:=hb) e5 ⟨by omega,by omega⟩ e3 n7 n1 n3
 have z:Hid (∀W,Below o.heap.size o W->Calls Tryz.prog 110 #[.pointer (some ⟨E,0,none⟩), .int .i64 (Xk x 1), .iface X Y,Ya 149 #[.pointer (some ⟨mb,0,none⟩), .pointer (some ⟨w.heap.size,0,none⟩), .pointer (some ⟨hb,0,none⟩)]] W fun e w'=>(∃v,e= .returned v/\Ko w' (Xp (Xh fs d) (Xk x 1) vs (fun b=>Yl (Yz kind ns b) h) st).1 v)/\FrH Z E O o w'/\St B Z E O fv fs (Xp (Xh fs d) (Xk x 1) vs (fun b=>Yl (Yz kind ns b) h) st).2 w'):=fun W hb=>Qz hok ho (hx.kid 1 (by omega)) t (hst.below c) (l.below c) (by omega) hst1 hb
 have M:=Xa f
 obtain ⟨ty,y1,rfl⟩:=hy.iface
 obtain ⟨R,P⟩:∃R,Xp (Xh fs d) (Xk x 1) vs (fun b=>Yl (Yz kind ns b) h) st=R:=⟨_,rfl⟩
 obtain ⟨L,q⟩:∃L,Xk x 1=L:=⟨_,rfl⟩
 have k5:w.cell? ⟨kb,ko+1,none⟩=some (.int .i64 L):=by rw[<-q];exact k4
 rw[P,q] at z
 rw[P]
 have l1:=X9 k1
 have l2:=X9 k2
 have l5:=X9 k5
 have l6:=X9 k6
 have HW:=Xa g
 clear hf hst hv0 l hrd p T V k4 P q hh hm t q1 q2 q3 q4 q5 e1 e2 e3 e4 e5 ho hx hok n1 n3 n7 hy s f c g
 go_enter Tryz.func148,Tryz.ntmps148
 go_wp2_with fail
 go_region_law (refine Q9 (by rfl) 110 _ _ _ _ _ _ _ _ (by rfl) (.pointer (some ⟨E,0,none⟩)) (.int .i64 L) (.iface X Y) (Ya 149 #[.pointer (some ⟨mb,0,none⟩), .pointer (some ⟨w.heap.size,0,none⟩), .pointer (some ⟨hb,0,none⟩)]) (by rfl) (by rfl) (by rfl) (by rfl) (Jy _ _ _ _) (z.out _ (by rw[<-HW.out];first|exact Below.refl _ _|exact (Below.refl _ _).drew)) ?_;rintro e w3 ⟨⟨ev,rfl,C⟩,G,J⟩;refine ⟨_,rfl, ?_⟩)
 all_goals
  have HF:=Xa (M.out.trans G)
  have HS:=Xa J
  have S:=Xa C
  clear G J C
  go_wp2_with fail
  go_ret
  exact ⟨⟨_,rfl,S.out⟩,HF.out,HS.out⟩


set_option maxRecDepth 100000 in
theorem Xka {B Z E O d:Nat} {fv:Value} {fs:List FN} (hok:okF fs=true) (ho:Je B E fv fs d) {x:FN} (hx:NodeOk fs x) (k:x.kind=10) {kc kn ki v:Value} {ns:List VN} {H:FuncId} {caps:Array Value} {h:X7} {st:Xs} {w:World} (hin:FNodeIn B w x kc kn ki) (hh:HandOk B Z E O d fv fs w H caps h) (hst:St B Z E O fv fs st w) (hv:Rep w ns v) (hd:st.1<=d):
  Calls Tryz.prog 114 #[.pointer (some ⟨E,0,none⟩),Yf x kc kn ki,v,Ya H caps] w (Y6 B Z E O fv fs (Xp (Xh fs d) (Xk x 0) ns (fun y st=>if Xu y=true then h ns st else (0,st)) st) w):=by
 have HN:=Xa hin
 have HH:=Xa hh
 have bg:=Xa hst
 have HV:=Xa hv
 have HX:=Xa hx
 obtain ⟨_,G,J,rfl,_⟩:=hin.cst
 obtain ⟨_,_,L,M,rfl,_⟩:=hin.names
 obtain ⟨_,_,P,S,rfl,_⟩:=hin.kids
 obtain ⟨D,y,rfl⟩:=hv.iface
 have hO:=hst.hO
 have bh:=hst.hZ
 have bi:=hst.hEZ
 have hBZ:=hst.hBZ
 have bj:=hst.ev.hBE
 obtain ⟨c,b⟩:∃c,((w.alloc (.cells #[.int .i64 x.kind, .string x.name, .int .i64 x.place, .slice G x.cst.length J, .slice L x.names.length M, .slice P x.kids.length S] 84)).alloc (.cells #[.iface D y] 52)).alloc (.cells #[.func (.func H) #[] caps] 161)=c:=⟨_,rfl⟩
 have f:Hid (Below w.heap.size w c):=by rw[Hid,<-b];exact ((((Below.refl w.heap.size w).alloc (Nat.le_refl _) _).alloc (by simp<;>omega) _).alloc (by simp<;>omega) _)
 have l:Hid (FrH Z E O w c):= .of_below f.out hst.hZ
 have T:c.cell? ⟨w.heap.size,0,none⟩=some (.int .i64 x.kind):=by rw[<-b];rw[World.cell?_alloc_past _ _ _ (by simp<;>omega)];rw[World.cell?_alloc_past _ _ _ (by simp<;>omega)];rw[World.cell?_alloc_at _ _ _ _ (by simp)];rfl
 have V:c.cell? ⟨w.heap.size,1,none⟩=some (.string x.name):=by rw[<-b];rw[World.cell?_alloc_past _ _ _ (by simp<;>omega)];rw[World.cell?_alloc_past _ _ _ (by simp<;>omega)];rw[World.cell?_alloc_at _ _ _ _ (by simp)];rfl
 have X:c.cell? ⟨w.heap.size,2,none⟩=some (.int .i64 x.place):=by rw[<-b];rw[World.cell?_alloc_past _ _ _ (by simp<;>omega)];rw[World.cell?_alloc_past _ _ _ (by simp<;>omega)];rw[World.cell?_alloc_at _ _ _ _ (by simp)];rfl
 have Y:c.cell? ⟨w.heap.size,3,none⟩=some (.slice G x.cst.length J):=by rw[<-b];rw[World.cell?_alloc_past _ _ _ (by simp<;>omega)];rw[World.cell?_alloc_past _ _ _ (by simp<;>omega)];rw[World.cell?_alloc_at _ _ _ _ (by simp)];rfl
 have ba:c.cell? ⟨w.heap.size,4,none⟩=some (.slice L x.names.length M):=by rw[<-b];rw[World.cell?_alloc_past _ _ _ (by simp<;>omega)];rw[World.cell?_alloc_past _ _ _ (by simp<;>omega)];rw[World.cell?_alloc_at _ _ _ _ (by simp)];rfl
 have bb:c.cell? ⟨w.heap.size,5,none⟩=some (.slice P x.kids.length S):=by rw[<-b];rw[World.cell?_alloc_past _ _ _ (by simp<;>omega)];rw[World.cell?_alloc_past _ _ _ (by simp<;>omega)];rw[World.cell?_alloc_at _ _ _ _ (by simp)];rfl
 have bk:Hid (NodeBox B c (w.heap.size) x (.slice G x.cst.length J) (.slice L x.names.length M) (.slice P x.kids.length S)):=⟨T,V,X,Y,ba,bb,hin.below (f.out.mono (by omega))⟩
 have cv:c.cell? ⟨w.heap.size+1,0,none⟩=some (.iface D y):=by rw[<-b];rw[World.cell?_alloc_past _ _ _ (by simp<;>omega)];rw[World.cell?_alloc_at _ _ _ _ (by simp)];rfl
 have ch:c.cell? ⟨w.heap.size+2,0,none⟩=some (.func (.func H) #[] caps):=by rw[<-b];rw[World.cell?_alloc_at _ _ _ _ (by simp)];rfl
 have o:Hid (St B Z E O fv fs st c):=hst.below f.out
 have p:=Xa (HV.out.below f.out)
 have bc:=Xa (hh.on l.out)
 have bl:c.heap.size=w.heap.size+3:=by rw[<-b];simp
 obtain ⟨kb,ko,be,ek,bm,k4⟩:=(hin.below (f.out.mono (by omega))).kids.get (j:=0) (by first|(have:=hx.one (.inl k);omega)|(have:=hx.three k;omega))
 injection ek with ek1 ek2 ek3
 subst ek1 ek3
 have q:=Xa (Xry bc.out p.out ⟨by omega,by omega⟩ ⟨by omega,by omega⟩ ch cv (fun w' hf=>o.out.reads hf))
 obtain ⟨R,hR⟩:∃R,Xp (Xh fs d) (Xk x 0) ns (fun y st=>if Xu y=true then h ns st else (0,st)) st=R:=⟨_,rfl⟩
 have s:Hid (∀W,Below c.heap.size c W->Calls Tryz.prog 110 #[.pointer (some ⟨E,0,none⟩), .int .i64 (Xk x 0), .iface D y,Ya 145 #[.pointer (some ⟨w.heap.size+2,0,none⟩), .pointer (some ⟨w.heap.size+1,0,none⟩)]] W fun e w'=>(∃v,e= .returned v/\Ko w' R.1 v)/\FrH Z E O c w'/\St B Z E O fv fs R.2 w'):=fun W hb=>by
  rw[<-hR]
  exact Qz hok ho (hx.kid 0 (by first|(have:=hx.one (.inl k);omega)|(have:=hx.three k;omega))) q.out o.out p.out hd hd hb
 rw[hR]
 obtain ⟨F,g⟩:∃F,Xk x 0=F:=⟨_,rfl⟩
 have k5:c.cell? ⟨kb,ko,none⟩=some (.int .i64 F):=by rw[<-g];unfold Xk;simpa using k4
 rw[g] at s
 have bn:0<x.kids.length:=by have:=hx.one (.inl k);omega
 have bf:(0:Int)<(x.kids.length:Int):=by omega
 have bo:kb<w.heap.size:=by omega
 have bp:=Xa b
 clear hin hh hst hv hx hok ho hR g k4 q k
 go_enter Tryz.func114,Tryz.ntmps114
 go_wp2_with fail
 go_region_law (refine Q9 (by rfl) 110 _ _ _ _ _ _ _ _ (by rfl) (.pointer (some ⟨E,0,none⟩)) (.int .i64 F) (.iface D y) (Ya 145 #[.pointer (some ⟨w.heap.size+2,0,none⟩), .pointer (some ⟨w.heap.size+1,0,none⟩)]) (by rfl) (by rfl) (by rfl) (by rfl) (Jy _ _ _ _) (s.out _ (by first|exact Below.refl _ _|exact (Below.refl _ _).drew)) ?_;rintro e w4 ⟨⟨ev,rfl,t⟩,z,C⟩;refine ⟨_,rfl, ?_⟩)
 all_goals
  have HF:=Xa (l.out.trans z)
  have HS:=Xa C
  have bd:=Xa t
  clear z C t
  go_wp2_with fail
  go_ret
  exact ⟨⟨_,rfl,bd.out⟩,HF.out,HS.out⟩
set_option maxRecDepth 100000 in
theorem Xuo {B Z E O d:Nat} {fv:Value} {fs:List FN} (hok:okF fs=true) (ho:Je B E fv fs d) {x:FN} (hx:NodeOk fs x) (k:x.kind=22) {kc kn ki v:Value} {ns:List VN} {H:FuncId} {caps:Array Value} {h:X7} {st:Xs} {w:World} (hin:FNodeIn B w x kc kn ki) (hh:HandOk B Z E O d fv fs w H caps h) (hst:St B Z E O fv fs st w) (hv:Rep w ns v) (hd:st.1<=d):
  Calls Tryz.prog 117 #[.pointer (some ⟨E,0,none⟩),Yf x kc kn ki,v,Ya H caps] w (Y6 B Z E O fv fs (Xp (Xh fs d) (Xk x 0) ns (fun y=>if Xu y=true then Xp (Xh fs d) (Xk x 1) ns h else Xp (Xh fs d) (Xk x 2) ns h) st) w):=by
 have HN:=Xa hin
 have HH:=Xa hh
 have bi:=Xa hst
 have HV:=Xa hv
 have HX:=Xa hx
 obtain ⟨_,G,J,rfl,_⟩:=hin.cst
 obtain ⟨_,_,L,M,rfl,_⟩:=hin.names
 obtain ⟨_,_,P,S,rfl,_⟩:=hin.kids
 obtain ⟨D,y,rfl⟩:=hv.iface
 have hO:=hst.hO
 have bj:=hst.hZ
 have bk:=hst.hEZ
 have hBZ:=hst.hBZ
 have T:=hst.ev.hBE
 obtain ⟨c,b⟩:∃c,(((w.alloc (.cells #[.pointer (some ⟨E,0,none⟩)] 103)).alloc (.cells #[.int .i64 x.kind, .string x.name, .int .i64 x.place, .slice G x.cst.length J, .slice L x.names.length M, .slice P x.kids.length S] 84)).alloc (.cells #[.iface D y] 52)).alloc (.cells #[.func (.func H) #[] caps] 161)=c:=⟨_,rfl⟩
 have f:Hid (Below w.heap.size w c):=by rw[Hid,<-b];exact (((((Below.refl w.heap.size w).alloc (Nat.le_refl _) _).alloc (by simp<;>omega) _).alloc (by simp<;>omega) _).alloc (by simp<;>omega) _)
 have l:Hid (FrH Z E O w c):= .of_below f.out hst.hZ
 have ce:c.cell? ⟨w.heap.size,0,none⟩=some (.pointer (some ⟨E,0,none⟩)):=by rw[<-b];rw[World.cell?_alloc_past _ _ _ (by simp<;>omega)];rw[World.cell?_alloc_past _ _ _ (by simp<;>omega)];rw[World.cell?_alloc_past _ _ _ (by simp<;>omega)];rw[World.cell?_alloc_at _ _ _ _ (by simp)];rfl
 have V:c.cell? ⟨w.heap.size+1,0,none⟩=some (.int .i64 x.kind):=by rw[<-b];rw[World.cell?_alloc_past _ _ _ (by simp<;>omega)];rw[World.cell?_alloc_past _ _ _ (by simp<;>omega)];rw[World.cell?_alloc_at _ _ _ _ (by simp)];rfl
 have X:c.cell? ⟨w.heap.size+1,1,none⟩=some (.string x.name):=by rw[<-b];rw[World.cell?_alloc_past _ _ _ (by simp<;>omega)];rw[World.cell?_alloc_past _ _ _ (by simp<;>omega)];rw[World.cell?_alloc_at _ _ _ _ (by simp)];rfl
 have Y:c.cell? ⟨w.heap.size+1,2,none⟩=some (.int .i64 x.place):=by rw[<-b];rw[World.cell?_alloc_past _ _ _ (by simp<;>omega)];rw[World.cell?_alloc_past _ _ _ (by simp<;>omega)];rw[World.cell?_alloc_at _ _ _ _ (by simp)];rfl
 have ba:c.cell? ⟨w.heap.size+1,3,none⟩=some (.slice G x.cst.length J):=by rw[<-b];rw[World.cell?_alloc_past _ _ _ (by simp<;>omega)];rw[World.cell?_alloc_past _ _ _ (by simp<;>omega)];rw[World.cell?_alloc_at _ _ _ _ (by simp)];rfl
 have bb:c.cell? ⟨w.heap.size+1,4,none⟩=some (.slice L x.names.length M):=by rw[<-b];rw[World.cell?_alloc_past _ _ _ (by simp<;>omega)];rw[World.cell?_alloc_past _ _ _ (by simp<;>omega)];rw[World.cell?_alloc_at _ _ _ _ (by simp)];rfl
 have bc:c.cell? ⟨w.heap.size+1,5,none⟩=some (.slice P x.kids.length S):=by rw[<-b];rw[World.cell?_alloc_past _ _ _ (by simp<;>omega)];rw[World.cell?_alloc_past _ _ _ (by simp<;>omega)];rw[World.cell?_alloc_at _ _ _ _ (by simp)];rfl
 have bd:Hid (NodeBox B c (w.heap.size+1) x (.slice G x.cst.length J) (.slice L x.names.length M) (.slice P x.kids.length S)):=⟨V,X,Y,ba,bb,bc,hin.below (f.out.mono (by omega))⟩
 have cv:c.cell? ⟨w.heap.size+2,0,none⟩=some (.iface D y):=by rw[<-b];rw[World.cell?_alloc_past _ _ _ (by simp<;>omega)];rw[World.cell?_alloc_at _ _ _ _ (by simp)];rfl
 have ch:c.cell? ⟨w.heap.size+3,0,none⟩=some (.func (.func H) #[] caps):=by rw[<-b];rw[World.cell?_alloc_at _ _ _ _ (by simp)];rfl
 have o:Hid (St B Z E O fv fs st c):=hst.below f.out
 have p:=Xa (HV.out.below f.out)
 have be:=Xa (hh.on l.out)
 have bl:c.heap.size=w.heap.size+4:=by rw[<-b];simp
 obtain ⟨kb,ko,bg,ek,bm,k4⟩:=(hin.below (f.out.mono (by omega))).kids.get (j:=0) (by first|(have:=hx.one (.inl k);omega)|(have:=hx.three k;omega))
 injection ek with ek1 ek2 ek3
 subst ek1 ek3
 have q:=Xa (X21 hok ho hx (hx.three k) be.out (Nat.le_refl _) T (by omega) p.out (fun w' hf=>o.out.reads hf) ⟨by omega,by omega⟩ ⟨by omega,by omega⟩ ⟨by omega,by omega⟩ ⟨by omega,by omega⟩ ce bd.out cv ch)
 obtain ⟨R,hR⟩:∃R,Xp (Xh fs d) (Xk x 0) ns (fun y=>if Xu y=true then Xp (Xh fs d) (Xk x 1) ns h else Xp (Xh fs d) (Xk x 2) ns h) st=R:=⟨_,rfl⟩
 have s:Hid (∀W,Below c.heap.size c W->Calls Tryz.prog 110 #[.pointer (some ⟨E,0,none⟩), .int .i64 (Xk x 0), .iface D y,Ya 153 #[.pointer (some ⟨w.heap.size,0,none⟩), .pointer (some ⟨w.heap.size+1,0,none⟩), .pointer (some ⟨w.heap.size+2,0,none⟩), .pointer (some ⟨w.heap.size+3,0,none⟩)]] W fun e w'=>(∃v,e= .returned v/\Ko w' R.1 v)/\FrH Z E O c w'/\St B Z E O fv fs R.2 w'):=fun W hb=>by
  rw[<-hR]
  exact Qz hok ho (hx.kid 0 (by first|(have:=hx.one (.inl k);omega)|(have:=hx.three k;omega))) q.out o.out p.out hd hd hb
 rw[hR]
 obtain ⟨F,g⟩:∃F,Xk x 0=F:=⟨_,rfl⟩
 have k5:c.cell? ⟨kb,ko,none⟩=some (.int .i64 F):=by rw[<-g];unfold Xk;simpa using k4
 rw[g] at s
 have bn:0<x.kids.length:=by have:=hx.three k;omega
 have bh:(0:Int)<(x.kids.length:Int):=by omega
 have bo:kb<w.heap.size:=by omega
 have bp:=Xa b
 clear hin hh hst hv hx hok ho hR g k4 q k
 go_enter Tryz.func117,Tryz.ntmps117
 go_wp2_with fail
 go_region_law (refine Q9 (by rfl) 110 _ _ _ _ _ _ _ _ (by rfl) (.pointer (some ⟨E,0,none⟩)) (.int .i64 F) (.iface D y) (Ya 153 #[.pointer (some ⟨w.heap.size,0,none⟩), .pointer (some ⟨w.heap.size+1,0,none⟩), .pointer (some ⟨w.heap.size+2,0,none⟩), .pointer (some ⟨w.heap.size+3,0,none⟩)]) (by rfl) (by rfl) (by rfl) (by rfl) (Jy _ _ _ _) (s.out _ (by first|exact Below.refl _ _|exact (Below.refl _ _).drew)) ?_;rintro e w4 ⟨⟨ev,rfl,t⟩,z,C⟩;refine ⟨_,rfl, ?_⟩)
 all_goals
  have HF:=Xa (l.out.trans z)
  have HS:=Xa C
  have bf:=Xa t
  clear z C t
  go_wp2_with fail
  go_ret
  exact ⟨⟨_,rfl,bf.out⟩,HF.out,HS.out⟩


set_option maxRecDepth 100000 in
theorem Xpl {B Z E O D:Nat} {fv:Value} {fs:List FN} {v:Value} {ns:List VN} {H:FuncId} {caps:Array Value} {h:X7} {st:Xs} {w:World} (hh:HandOk B Z E O D fv fs w H caps h) (hst:St B Z E O fv fs st w) (hv:Rep w ns v) (hD:st.1<=D):
  Calls Tryz.prog 109 #[v,Ya H caps] w (Y6 B Z E O fv fs (if (Xd ns).kind=5\/(Xd ns).kind=6 then Xq h (Yo ns) st else (2,st)) w):=by
 have Y:=Xa hh
 have d:=Xa hst
 have HE:Hid (∀w',Below w.heap.size w w'->Errs w'):=fun w' hb=>(hst.ev.errs.now.two.errs).below hb
 have HD:=Xa hD
 have y:(Yo ns).length<=1000:=by
  have p:=Xm hv.1
  have:=p.2.2.2 (ns.length-1) (by omega)
  rw[Qp];unfold Xe;omega
 rcases hv.cases with ⟨k,rfl⟩|⟨k,rfl⟩|⟨k,rfl⟩|⟨k,rfl⟩|⟨k,it,rfl,hi⟩|⟨k,ks,it,rfl,hs,hi⟩
 case inr.inr.inr.inr.inl=>
  rw[if_pos (.inl k)]
  have V:=Xa hi
  obtain ⟨_,a,c,rfl,_⟩:=hi
  obtain ⟨R,z⟩:∃R,Xq h (Yo ns) st=R:=⟨_,rfl⟩
  have g:Hid (∀W,Below w.heap.size w W->Calls Tryz.prog 141 #[.slice a (Yo ns).length c,Ya H caps] W (Y6 B Z E O fv fs R W)):=fun W hb=>by
   rw[<-z]
   exact Gu (Y.out.on (.of_below hb d.out.hZ)) (d.out.below hb) (V.out.reads (ButE.reads (.of_below (E:=E) hb) d.out.ev)) HD.out
  obtain ⟨M,J⟩:∃M,(Yo ns).length=M:=⟨_,rfl⟩
  rw[J] at g|-
  rw[z]
  clear hv hst hh k z J hD y
  go_enter Tryz.func109,Tryz.ntmps109
  go_wp2_with fail
  refine (V4 _ _ _ _).mono ?_
  rintro e w1 ⟨rfl,b⟩
  have j:=Xa b
  clear b
  go_wp2_with fail
  refine (Kc _ _ _ _).mono ?_
  rintro e S ⟨rfl,l⟩
  have f:=Xa (j.out.trans (l.mono j.out.size))
  clear l
  go_wp2_with fail
  refine (g.out S f.out).mono ?_
  rintro e T ⟨⟨ev,rfl,o⟩,q,s⟩
  have C:=Xa o
  have F:Hid (FrH Z E O w T):=(FrH.of_below f.out d.out.hZ).trans q
  have G:=Xa s
  clear o q s
  go_wp2_with fail
  go_ret
  exact ⟨⟨_,rfl,C.out⟩,F.out,G.out⟩
 case inr.inr.inr.inr.inr=>
  rw[if_pos (.inr k)]
  have V:=Xa hi
  obtain ⟨_,a,c,rfl,_⟩:=hi
  obtain ⟨_,_,a',c',rfl,_⟩:=hs
  obtain ⟨R,z⟩:∃R,Xq h (Yo ns) st=R:=⟨_,rfl⟩
  have g:Hid (∀W,Below w.heap.size w W->Calls Tryz.prog 141 #[.slice a (Yo ns).length c,Ya H caps] W (Y6 B Z E O fv fs R W)):=fun W hb=>by
   rw[<-z]
   exact Gu (Y.out.on (.of_below hb d.out.hZ)) (d.out.below hb) (V.out.reads (ButE.reads (.of_below (E:=E) hb) d.out.ev)) HD.out
  obtain ⟨M,J⟩:∃M,(Yo ns).length=M:=⟨_,rfl⟩
  rw[J] at g|-
  rw[z]
  obtain ⟨LK,L⟩:∃LK,(Xd ns).keys.length=LK:=⟨_,rfl⟩
  rw[L]
  clear hv hst hh k z J hD y L
  go_enter Tryz.func109,Tryz.ntmps109
  go_wp2_with fail
  refine (K6 _ _ _ _ _ _ _).mono ?_
  rintro e w1 ⟨rfl,b⟩
  have j:=Xa b
  clear b
  go_wp2_with fail
  refine (K6 _ _ _ _ _ _ _).mono ?_
  rintro e ba ⟨rfl,b⟩
  have t:=Xa (j.out.trans (b.mono j.out.size))
  clear b
  go_wp2_with fail
  refine (Um _ _ _ _ _ _ _).mono ?_
  rintro e S ⟨rfl,l⟩
  have f:=Xa (t.out.trans (l.mono t.out.size))
  clear l
  go_wp2_with fail
  refine (g.out S f.out).mono ?_
  rintro e T ⟨⟨ev,rfl,o⟩,q,s⟩
  have C:=Xa o
  have F:Hid (FrH Z E O w T):=(FrH.of_below f.out d.out.hZ).trans q
  have G:=Xa s
  clear o q s
  go_wp2_with fail
  go_ret
  exact ⟨⟨_,rfl,C.out⟩,F.out,G.out⟩
 all_goals
  rw[if_neg (by omega)]
  clear hv hst hh k hD y
  go_enter Tryz.func109,Tryz.ntmps109
  go_wp2_with fail
  first
   |refine (Kz _).mono ?_
   |refine (K3 _ _).mono ?_
   |refine (K4 _ _).mono ?_
   |refine (K5 _ _).mono ?_
  rintro e w1 ⟨rfl,b⟩
  have j:=Xa b
  clear b
  go_wp2_with fail
  first
   |refine (Kz _).mono ?_
   |refine (K3 _ _).mono ?_
   |refine (K4 _ _).mono ?_
   |refine (K5 _ _).mono ?_
  rintro e S ⟨rfl,l⟩
  have f:=Xa (j.out.trans (l.mono j.out.size))
  clear l
  go_wp2_with fail
  refine (Zx _ (HE.out _ f.out)).mono ?_
  rintro e T ⟨⟨u,rfl,te,xe,rfl,P⟩,rfl⟩
  have X:=Xa P
  clear P
  go_wp2_with fail
  go_ret
  exact ⟨⟨_,rfl, .inr ⟨(show (2:Int)≠0 by decide),te,xe,rfl,X.out⟩⟩, .of_below f.out d.out.hZ,d.out.below f.out⟩
set_option maxRecDepth 100000 in
theorem Xrx {B Z E O d:Nat} {fv:Value} {fs:List FN} (hok:okF fs=true) (ho:Je B E fv fs d) {x:FN} (hx:NodeOk fs x) (h1:x.kids.length=1) {kc kn ki v:Value} {ns:List VN} {H:FuncId} {caps:Array Value} {h:X7} {st:Xs} {w:World} (hin:FNodeIn B w x kc kn ki) (hh:HandOk B Z E O d fv fs w H caps h) (hst:St B Z E O fv fs st w) (hv:Rep w ns v) (hd:st.1<=d):
  Calls Tryz.prog 118 #[.pointer (some ⟨E,0,none⟩),Yf x kc kn ki,v,Ya H caps] w (Y6 B Z E O fv fs (Xav h (Zp (Xh fs d (Xk x 0).toNat ns st.1)) st.2) w):=by
 have HH:=Xa hh
 have s:=Xa hst
 obtain ⟨_,aC,cC,rfl,_⟩:=hin.cst
 obtain ⟨_,_,aK,cK,rfl,_⟩:=hin.names
 obtain ⟨kb,ko,F,rfl,be,k4⟩:=hin.kids.get (j:=0) (by omega)
 obtain ⟨ty,y,rfl⟩:=hv.iface
 have V:=hx.kid 0 (by omega)
 obtain ⟨D,o⟩:∃D:Nat,Xk x 0=(D:Int):=⟨(Xk x 0).toNat,by omega⟩
 have k5:w.cell? ⟨kb,ko,none⟩=some (.int .i64 (D:Int)):=by rw[<-o];unfold Xk;simpa using k4
 obtain ⟨r,T⟩:∃r,Zp (Xh fs d D ns st.1)=r:=⟨_,rfl⟩
 have b:(∀x∈r.l,okB x=true)/\r.fu<=st.1:=by rw[<-T];exact Xao (Zf hok d) D hv.1 st.1
 rw[o,Int.toNat_natCast,T]
 have p:Below w.heap.size w (w.alloc (.cells #[.int .i64 x.kind, .string x.name, .int .i64 x.place, .slice aC x.cst.length cC, .slice aK x.names.length cK, .slice (some ⟨kb,ko,none⟩) x.kids.length F] 84)):=(Below.refl _ _).alloc (Nat.le_refl _) _
 have q:=Xa p
 have t:=Xa (Xic ho D (.iface ty y) ns st.1 _ (by rw[o] at V;simpa using V.2) (hst.ev.below p) (hv.below p) hd)
 rw[T] at t
 have bf:=X9 k5
 obtain ⟨Q,X⟩:∃Q,Xav h r st.2=Q:=⟨_,rfl⟩
 have HQ:=Xa X
 have Y:Hid (r.fu<=d):=Nat.le_trans b.2 hd
 rw[X]
 rw[h1]
 rw[h1] at q t
 clear hh hst hin hv p T X k4 o V b ho hok hx hd h1
 go_enter Tryz.func118,Tryz.ntmps118
 go_wp2_with fail
 refine t.out.mono ?_
 rintro e w1 ⟨it,ev,rfl,G,hb,he⟩
 have J:=Xa ((s.out.below q.out).step hb he)
 have z:Hid (FrH Z E O w w1):=(FrH.of_below q.out s.out.hZ).trans (hb.frh (Nat.le_trans s.out.hZ q.out.size))
 clear hb he
 rcases G with ⟨h1,rfl,hit⟩|⟨h1,rfl,te,xe,rfl,hrs⟩
 ·have ba:=Xa hit
  obtain ⟨_,a,c,rfl,_⟩:=hit
  have f:Hid (Q=Xq h r.l (r.fu,st.2)):=by rw[Hid,<-HQ.out];unfold Xav;rw[if_pos h1]
  have g:=Xa (Gu (HH.out.on z.out) J.out ba.out Y.out)
  rw[<-f.out] at g
  obtain ⟨M,hM⟩:∃M,r.l.length=M:=⟨_,rfl⟩
  rw[hM] at g|-
  clear h1 hM
  go_wp2_with fail
  refine g.out.mono ?_
  rintro e w3 ⟨⟨ev,rfl,L⟩,P,R⟩
  have bb:=Xa L
  have bc:=Xa (z.out.trans P)
  have bd:=Xa R
  clear L P R
  go_wp2_with fail
  go_ret
  exact ⟨⟨_,rfl,bb.out⟩,bc.out,bd.out⟩
 ·have f:Hid (Q=(r.c,(r.fu,st.2))):=by rw[Hid,<-HQ.out];unfold Xav;rw[if_neg h1]
  have H1:=Xa h1
  have S:=Xa hrs
  obtain ⟨C,hC⟩:∃C,r.c=C:=⟨_,rfl⟩
  rw[hC] at H1 S f|-
  clear h1 hrs hC
  go_wp2_with fail
  go_ret
  exact ⟨⟨_,rfl, .inr (by rw[f.out];exact ⟨H1.out,te,xe,rfl,S.out⟩)⟩,z.out,by rw[f.out];exact J.out⟩
end Go.Proofs.YtdjddneidbddpaaGreatDoor
