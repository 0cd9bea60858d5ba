import Derived.Test.YtdjddneidbddpaaGreatDoorSeM
import Derived.Test.YtdjddneidbddpaaGreatDoorEvZ
import Derived.Test.YtdjddneidbddpaaGreatDoorPsZ
import Derived.Test.YtdjddneidbddpaaGreatDoorLowN
namespace Go.Proofs.YtdjddneidbddpaaGreatDoor
set_option linter.unusedSectionVars false
set_option maxHeartbeats 6400000
open Go.RowKit
set_option linter.unusedSimpArgs false
set_option linter.unusedVariables false
theorem IntsAt.get {B:Nat} {w:World} {ki:Value} {l:List Int} (h:IntsAt B w ki l) {j:Nat} (hj:j<l.length):∃b o c,ki= .slice (some ⟨b,o,none⟩) l.length c∧b<B∧w.cell? ⟨b,o+j,none⟩=some (.int .i64 (Xm l j)):=by
 obtain ⟨_,_,a,c,rfl,hx⟩:=h
 obtain ⟨b,o,rfl,hb,hc⟩:=hx (by omega)
 exact ⟨b,o,c,rfl,hb,hc j hj⟩
abbrev X5 (H:FuncId) (caps:Array Value):Value:= .func (.func H) #[] caps
theorem J4 (a b c d:Value) (w:World):(callFunc 110 #[a,b,c,d]).run Tryz.prog w= .ok (.enter 110 #[a,b,c,d]) w:=by kernel_rfl
theorem Q5 {B Z E O D:Nat} {fv:Value} {fs:List FN} {d:Nat} (hok:okF fs=true) (ho:Qr B E fv fs d) {H:FuncId} {caps:Array Value} {h:Yc} {w W:World} {st:Xt} {n:Int} {ns:List VN} {v:Value} (hn:0≤n∧n.toNat<fs.length) (hh:HandOk B Z E O D fv fs w H caps h) (hst:St B Z E O fv fs st w) (hv:Rep w ns v) (hd:st.1≤d) (hD:st.1≤D) (hb:Below w.heap.size w W):
  Calls Tryz.prog 110 #[.pointer (some ⟨E,0,none⟩), .int .i64 n,v,X5 H caps] W fun e w'=>(∃v,e= .returned v∧Jk w' (Xq (Xf fs d) n ns h st).1 v)∧FrH Z E O w w'∧St B Z E O fv fs (Xq (Xf fs d) n ns h st).2 w':=
 (X1v ho hn (hh.on (.of_below hb hst.hZ)) (hst.below hb) (hv.below hb) hd hD (Yr hok d)).mono fun e w' k=>⟨k.1,(FrH.of_below hb hst.hZ).trans k.2.1,k.2.2⟩
theorem Xbu {fs:List FN} (hok:okF fs=true) (d:Nat) {h:Yc} (hh:∀ns st,okB ns=true→(h ns st).2.1≤st.1) (n:Int) {ns:List VN} (hv:okB ns=true) (st:Xt):(Xq (Xf fs d) n ns h st).2.1≤st.1:=by
 have hg:=Yr hok d
 have all:∀(l:List (List VN)) (st:Xt),(∀x∈l,okB x=true)→(Xo h l st).2.1≤st.1:=by
  intro l
  induction l with
  |nil=>intro st _;exact Nat.le_refl _
  | cons x r ih =>
   intro st hl
   rw[Xo]
   have h1:=hh x st (hl x (by simp))
   split
   ·exact Nat.le_trans (ih _ fun y hy=>hl y (by simp[hy])) h1
   ·exact h1
 unfold Xq
 split
 ·exact Nat.le_trans (all _ _ (hg.ok _ _ _ hv)) (hg.le _ _ _ hv)
 ·exact hg.le _ _ _ hv
structure NodeBox (B:Nat) (w:World) (nb:Nat) (x:FN) (kc kn ki:Value):Prop where
 c0:w.cell? ⟨nb,0,none⟩=some (.int .i64 x.kind)
 c1:w.cell? ⟨nb,1,none⟩=some (.string x.name)
 c2:w.cell? ⟨nb,2,none⟩=some (.int .i64 x.place)
 c3:w.cell? ⟨nb,3,none⟩=some kc
 c4:w.cell? ⟨nb,4,none⟩=some kn
 c5:w.cell? ⟨nb,5,none⟩=some ki
 inn:FNodeIn B w x kc kn ki
theorem NodeBox.on {B Z E O:Nat} {w w':World} {nb:Nat} {x:FN} {kc kn ki:Value} (h:NodeBox B w nb x kc kn ki) (hf:FrH Z E O w w') (h1:nb≠E) (h2:nb≠O) (hB:B≤E) (hZ:B≤Z):NodeBox B w' nb x kc kn ki:=by
 obtain ⟨_,aC,cC,eC,_⟩:=h.inn.cst
 obtain ⟨_,_,aK,cK,eK,_⟩:=h.inn.names
 obtain ⟨_,_,aI,cI,eI,_⟩:=h.inn.kids
 exact ⟨hf.cell _ _ _ h1 h2 (by intro e;cases e) h.c0,hf.cell _ _ _ h1 h2 (by intro e;cases e) h.c1,hf.cell _ _ _ h1 h2 (by intro e;cases e) h.c2,hf.cell _ _ _ h1 h2 (by rw[eC];intro e;cases e) h.c3,hf.cell _ _ _ h1 h2 (by rw[eK];intro e;cases e) h.c4,hf.cell _ _ _ h1 h2 (by rw[eI];intro e;cases e) h.c5,h.inn.below (hf.below hB hZ)⟩
set_option maxRecDepth 100000 in
theorem Xyt {B Z E O D:Nat} {fv:Value} {fs:List FN} {d:Nat} (hok:okF fs=true) (ho:Qr B E fv fs d) {x:FN} (hx:NodeOk fs x) (h2:x.kids.length=2) {kc kn ki:Value} {H:FuncId} {caps:Array Value} {h:Yc} {w0:World} (hh:HandOk B Z E O D fv fs w0 H caps h) (hD:D≤d) (hBE:B≤E) (hBZ:B≤Z)
  {eb nb hb:Nat} (e1:eb≠E∧eb≠O) (e2:nb≠E∧nb≠O) (e3:hb≠E∧hb≠O) (q1:w0.cell? ⟨eb,0,none⟩=some (.pointer (some ⟨E,0,none⟩))) (q2:NodeBox B w0 nb x kc kn ki) (q3:w0.cell? ⟨hb,0,none⟩=some (X5 H caps)):
  HandOk B Z E O D fv fs w0 111 #[.pointer (some ⟨eb,0,none⟩), .pointer (some ⟨nb,0,none⟩), .pointer (some ⟨hb,0,none⟩)] (fun y=>Xq (Xf fs d) (Xi x 1) y h):=by
 refine ⟨fun x w=>by kernel_rfl,fun ns st hv=>Xbu hok d hh.le _ hv st,fun w hf st v ns hst1 hst hv=> ?_⟩
 show Calls Tryz.prog 111 #[v, .pointer (some ⟨eb,0,none⟩), .pointer (some ⟨nb,0,none⟩), .pointer (some ⟨hb,0,none⟩)] w _
 have k1:=hf.cell eb 0 _ e1.1 e1.2 (by intro e;cases e) q1
 have k3:=hf.cell hb 0 _ e3.1 e3.2 (by intro e;cases e) q3
 have hnb:=q2.on hf e2.1 e2.2 hBE hBZ
 have k2:=hnb.c5
 obtain ⟨kb,ko,kcap,rfl,hkb,k4⟩:=hnb.inn.kids.get (j:=1) (by omega)
 rw[h2] at k2
 have HEA:Hid (∀W,Below w.heap.size w W→Calls Tryz.prog 110 #[.pointer (some ⟨E,0,none⟩), .int .i64 (Xi x 1),v,X5 H caps] W fun e w'=>(∃v,e= .returned v∧Jk w' (Xq (Xf fs d) (Xi x 1) ns h st).1 v)∧FrH Z E O w w'∧St B Z E O fv fs (Xq (Xf fs d) (Xi x 1) ns h st).2 w'):=fun W hb=>Q5 hok ho (hx.kid 1 (by omega)) (hh.on hf) hst hv (by omega) hst1 hb
 obtain ⟨ty,y,rfl⟩:=hv.iface
 obtain ⟨R,hR⟩:∃R,Xq (Xf fs d) (Xi x 1) ns h st=R:=⟨_,rfl⟩
 obtain ⟨K1,hK1⟩:∃K1,Xi x 1=K1:=⟨_,rfl⟩
 have k5:w.cell? ⟨kb,ko+1,none⟩=some (.int .i64 K1):=by rw[←hK1];exact k4
 rw[hR,hK1] at HEA
 show Calls _ _ _ _ (Yz B Z E O fv fs (Xq (Xf fs d) (Xi x 1) ns h st) w)
 rw[hR]
 clear hf hst hv hnb k4 hR hK1 hh q1 q2 q3 e1 e2 e3 ho hx hok
 go_enter Tryz.func111,Tryz.ntmps111
 go_wp2_with fail
 go_region_law (refine Jg (by rfl) 110 _ _ _ _ _ _ _ _ (by rfl) (.pointer (some ⟨E,0,none⟩)) (.int .i64 K1) (.iface ty y) (X5 H caps) (by rfl) (by rfl) (by rfl) (by rfl) (J4 _ _ _ _) (HEA.out _ (by first|exact Below.refl _ _|exact (Below.refl _ _).drew)) ?_;rintro e w3 ⟨⟨ev,rfl,hev⟩,hf3,hs3⟩;refine ⟨_,rfl, ?_⟩)
 all_goals
  have HF:=Xa hf3
  have HS:=Xa hs3
  have HEV:=Xa hev
  clear hf3 hs3 hev
  go_wp2_with fail
  go_ret
  exact ⟨⟨_,rfl,HEV.out⟩,HF.out,HS.out⟩
theorem Xh4 {h:Yc} (hh:∀ns st,okB ns=true→(h ns st).2.1≤st.1) {r:Int×List VN} (hr:r.1=0→okB r.2=true) (st:Xt):(Xv r h st).2.1≤st.1:=by
 unfold Xv
 split
 ·rename_i e;exact hh _ _ (hr e)
 ·exact Nat.le_refl _
theorem Xyu {r:Int×List VN} (h0:r.1=0) (h:Yc) (st:Xt):Xv r h st=h r.2 st:=by unfold Xv;rw[if_pos h0]
theorem X1y {r:Int×List VN} (h0:r.1≠0) (h:Yc) (st:Xt):Xv r h st=(r.1,st):=by unfold Xv;rw[if_neg h0]
theorem Vo {B Z E O D:Nat} {fv:Value} {fs:List FN} {H:FuncId} {caps:Array Value} {h:Yc} {w w1:World} {st:Xt} {r:Int×List VN} {u v:Value} (hh:HandOk B Z E O D fv fs w H caps h) (hst:St B Z E O fv fs st w) (hD:st.1≤D) (hb:Below w.heap.size w w1)
  (hr:(r.1=0∧v= .nilIface∧Rep w1 r.2 u)∨(r.1≠0∧u= .nilIface∧Kf w1 r.1 v)):
  Calls Tryz.prog 120 #[u,v,X5 H caps] w1 (fun e w'=>(∃v,e= .returned v∧Jk w' (Xv r h st).1 v)∧FrH Z E O w w'∧St B Z E O fv fs (Xv r h st).2 w'):=by
 have hf:FrH Z E O w w1:= .of_below hb hst.hZ
 rcases hr with ⟨h0,rfl,hrep⟩|⟨h0,rfl,hv⟩
 ·rw[Xyu h0]
  exact (Xvj (hh.on hf) (hst.below hb) hrep hD).mono fun e w' k=>⟨k.1,hf.trans k.2.1,k.2.2⟩
 ·rw[X1y h0]
  refine (Xyp .nilIface v (X5 H caps) w1 h0 (.inl rfl) hv).mono ?_
  rintro e w' ⟨rfl,rfl⟩
  exact ⟨⟨_,rfl, .inr ⟨h0,hv⟩⟩,hf,hst.below hb⟩
set_option maxRecDepth 100000 in
theorem Xr9 {B Z E O D:Nat} {fv:Value} {fs:List FN} {H:FuncId} {caps:Array Value} {h:Yc} {w0:World} (hh:HandOk B Z E O D fv fs w0 H caps h) {vs:List VN} {v0:Value} (hv0:Rep w0 vs v0) {hb vb:Nat} (e1:hb≠E∧hb≠O) (e2:vb≠E∧vb≠O) (q1:w0.cell? ⟨hb,0,none⟩=some (X5 H caps)) (q2:w0.cell? ⟨vb,0,none⟩=some v0)
  (hrd:∀w,FrH Z E O w0 w→Reads2 w0 w):
  HandOk B Z E O D fv fs w0 145 #[.pointer (some ⟨hb,0,none⟩), .pointer (some ⟨vb,0,none⟩)] (fun y st=>if Xx y=true then h vs st else (0,st)):=by
 refine ⟨fun x w=>by kernel_rfl,fun ns st hv=>by show (if Xx ns=true then h vs st else (0,st)).2.1≤st.1;split;exact hh.le _ _ hv0.1;exact Nat.le_refl _,fun w hf st x ns hst1 hst hx=> ?_⟩
 show Calls Tryz.prog 145 #[x, .pointer (some ⟨hb,0,none⟩), .pointer (some ⟨vb,0,none⟩)] w _
 have HH:=Xa (hh.on hf)
 have HV0:=Xa (hv0.reads (hrd w hf))
 obtain ⟨t0,y0,rfl⟩:=hv0.iface
 have HST:=Xa hst
 have HC:=Xa (Wm ns x w hx)
 have k1:=hf.cell hb 0 _ e1.1 e1.2 (by intro e;cases e) q1
 have k2:=hf.cell vb 0 _ e2.1 e2.2 (by intro e;cases e) q2
 have hl1:=X8 k1
 have hl2:=X8 k2
 obtain ⟨ty,y,rfl⟩:=hx.iface
 obtain ⟨tb,htb⟩:∃tb,Xx ns=tb:=⟨_,rfl⟩
 show Calls _ _ _ _ (Yz B Z E O fv fs (if Xx ns=true then h vs st else (0,st)) w)
 rw[htb] at HC⊢
 clear hh hv0 hrd hf hst hx htb q1 q2 e1 e2
 cases tb
 ·rw[if_neg (by simp)]
  go_enter Tryz.func145,Tryz.ntmps145
  go_wp2_with fail
  refine HC.out.mono ?_
  rintro e w1 ⟨rfl,hb1⟩
  have HB1:=Xa hb1
  clear hb1
  go_wp2_with fail
  go_ret
  exact ⟨⟨_,rfl, .inl ⟨rfl,rfl⟩⟩, .of_below HB1.out HST.out.hZ,HST.out.below HB1.out⟩
 ·rw[if_pos rfl]
  obtain ⟨R,hR⟩:∃R,h vs st=R:=⟨_,rfl⟩
  have HR:=Xa hR
  rw[hR]
  clear hR
  go_enter Tryz.func145,Tryz.ntmps145
  go_wp2_with fail
  refine HC.out.mono ?_
  rintro e w1 ⟨rfl,hb1⟩
  have HB1:=Xa hb1
  have HF1:Hid (FrH Z E O w w1):= .of_below hb1 HST.out.hZ
  have m1:=(Xc hb1 hl1).trans k1
  have m2:=(Xc hb1 hl2).trans k2
  clear hb1 k1 k2
  go_wp2_with fail
  rw[HH.out.enter,Oper.upon_enter]
  refine (HH.out.says w1 HF1.out st _ vs hst1 (HST.out.below HB1.out) (HV0.out.below HB1.out)).mono ?_
  rw[HR.out]
  rintro e w2 ⟨⟨ev,rfl,hev⟩,hf2,hs2⟩
  have HEV:=Xa hev
  have HF2:=Xa (HF1.out.trans hf2)
  have HS2:=Xa hs2
  clear hev hf2 hs2
  go_wp2_with fail
  go_ret
  exact ⟨⟨_,rfl,HEV.out⟩,HF2.out,HS2.out⟩
set_option maxRecDepth 100000 in
theorem X1z {B Z E O D:Nat} {fv:Value} {fs:List FN} {H:FuncId} {caps:Array Value} {h:Yc} {w0:World} (hh:HandOk B Z E O D fv fs w0 H caps h) {hb:Nat} (e1:hb≠E∧hb≠O) (q1:w0.cell? ⟨hb,0,none⟩=some (X5 H caps)):
  HandOk B Z E O D fv fs w0 152 #[.pointer (some ⟨hb,0,none⟩)] (Vg h):=by
 refine ⟨fun x w=>by kernel_rfl,fun ns st hv=>by unfold Vg;split;exact hh.le _ _ hv;exact Nat.le_refl _,fun w hf st x ns hst1 hst hx=> ?_⟩
 show Calls Tryz.prog 152 #[x, .pointer (some ⟨hb,0,none⟩)] w _
 have HH:=Xa (hh.on hf)
 have HST:=Xa hst
 have HX:=Xa hx
 have HC:=Xa (Wm ns x w hx)
 have k1:=hf.cell hb 0 _ e1.1 e1.2 (by intro e;cases e) q1
 have hl1:=X8 k1
 obtain ⟨ty,y,rfl⟩:=hx.iface
 obtain ⟨tb,htb⟩:∃tb,Xx ns=tb:=⟨_,rfl⟩
 have e0:Vg h ns st=if tb=true then h ns st else (0,st):=by unfold Vg;rw[htb]
 rw[e0]
 rw[htb] at HC
 clear hh hf hst hx htb q1 e1 e0
 cases tb
 ·rw[if_neg (by simp)]
  go_enter Tryz.func152,Tryz.ntmps152
  go_wp2_with fail
  refine HC.out.mono ?_
  rintro e w1 ⟨rfl,hb1⟩
  have HB1:=Xa hb1
  clear hb1
  go_wp2_with fail
  go_ret
  exact ⟨⟨_,rfl, .inl ⟨rfl,rfl⟩⟩, .of_below HB1.out HST.out.hZ,HST.out.below HB1.out⟩
 ·rw[if_pos rfl]
  obtain ⟨R,hR⟩:∃R,h ns st=R:=⟨_,rfl⟩
  have HR:=Xa hR
  rw[hR]
  clear hR
  go_enter Tryz.func152,Tryz.ntmps152
  go_wp2_with fail
  refine HC.out.mono ?_
  rintro e w1 ⟨rfl,hb1⟩
  have HB1:=Xa hb1
  have HF1:Hid (FrH Z E O w w1):= .of_below hb1 HST.out.hZ
  have m1:=(Xc hb1 hl1).trans k1
  clear hb1 k1
  go_wp2_with fail
  rw[HH.out.enter,Oper.upon_enter]
  refine (HH.out.says w1 HF1.out st _ ns hst1 (HST.out.below HB1.out) (HX.out.below HB1.out)).mono ?_
  rw[HR.out]
  rintro e w2 ⟨⟨ev,rfl,hev⟩,hf2,hs2⟩
  have HEV:=Xa hev
  have HF2:=Xa (HF1.out.trans hf2)
  have HS2:=Xa hs2
  clear hev hf2 hs2
  go_wp2_with fail
  go_ret
  exact ⟨⟨_,rfl,HEV.out⟩,HF2.out,HS2.out⟩

set_option maxRecDepth 100000 in
theorem X26 {B Z E O D:Nat} {fv:Value} {fs:List FN} {d:Nat} (hok:okF fs=true) (ho:Qr B E fv fs d) {x:FN} (hx:NodeOk fs x) (h3:x.kids.length=3) {kc kn ki:Value} {H:FuncId} {caps:Array Value} {h:Yc} {w0:World} (hh:HandOk B Z E O D fv fs w0 H caps h) (hD:D≤d) (hBE:B≤E) (hBZ:B≤Z)
  {vs:List VN} {v0:Value} (hv0:Rep w0 vs v0) (hrd:∀w,FrH Z E O w0 w→Reads2 w0 w)
  {eb nb vb hb:Nat} (e1:eb≠E∧eb≠O) (e2:nb≠E∧nb≠O) (e4:vb≠E∧vb≠O) (e3:hb≠E∧hb≠O) (q1:w0.cell? ⟨eb,0,none⟩=some (.pointer (some ⟨E,0,none⟩))) (q2:NodeBox B w0 nb x kc kn ki) (q4:w0.cell? ⟨vb,0,none⟩=some v0) (q3:w0.cell? ⟨hb,0,none⟩=some (X5 H caps)):
  HandOk B Z E O D fv fs w0 153 #[.pointer (some ⟨eb,0,none⟩), .pointer (some ⟨nb,0,none⟩), .pointer (some ⟨vb,0,none⟩), .pointer (some ⟨hb,0,none⟩)] (fun y=>if Xx y=true then Xq (Xf fs d) (Xi x 1) vs h else Xq (Xf fs d) (Xi x 2) vs h):=by
 refine ⟨fun x w=>by kernel_rfl,fun ns st hv=>by show ((if Xx ns=true then Xq (Xf fs d) (Xi x 1) vs h else Xq (Xf fs d) (Xi x 2) vs h) st).2.1≤st.1;split;exact Xbu hok d hh.le _ hv0.1 st;exact Xbu hok d hh.le _ hv0.1 st,fun w hf st y ns hst1 hst hy=> ?_⟩
 show Calls Tryz.prog 153 #[y, .pointer (some ⟨eb,0,none⟩), .pointer (some ⟨nb,0,none⟩), .pointer (some ⟨vb,0,none⟩), .pointer (some ⟨hb,0,none⟩)] w _
 show Calls _ _ _ _ (Yz B Z E O fv fs ((if Xx ns=true then Xq (Xf fs d) (Xi x 1) vs h else Xq (Xf fs d) (Xi x 2) vs h) st) w)
 have HC:=Xa (Wm ns y w hy)
 have hv0':=hv0.reads (hrd w hf)
 have k1:=hf.cell eb 0 _ e1.1 e1.2 (by intro e;cases e) q1
 have k3:=hf.cell hb 0 _ e3.1 e3.2 (by intro e;cases e) q3
 obtain ⟨t0,y0,rfl⟩:=hv0.iface
 have k6:=hf.cell vb 0 _ e4.1 e4.2 (by intro e;cases e) q4
 have hnb:=q2.on hf e2.1 e2.2 hBE hBZ
 have k2:=hnb.c5
 obtain ⟨ty,y1,rfl⟩:=hy.iface
 obtain ⟨tb,htb⟩:∃tb,Xx ns=tb:=⟨_,rfl⟩
 have HST:=Xa hst
 rw[htb] at HC⊢
 clear htb hy
 cases tb
 ·rw[if_neg (by simp)]
  obtain ⟨kb,ko,kcap,rfl,hkb,k4⟩:=hnb.inn.kids.get (j:=2) (by omega)
  rw[h3] at k2
  have HEA:Hid (∀W,Below w.heap.size w W→Calls Tryz.prog 110 #[.pointer (some ⟨E,0,none⟩), .int .i64 (Xi x 2),(.iface t0 y0),X5 H caps] W fun e w'=>(∃v,e= .returned v∧Jk w' (Xq (Xf fs d) (Xi x 2) vs h st).1 v)∧FrH Z E O w w'∧St B Z E O fv fs (Xq (Xf fs d) (Xi x 2) vs h st).2 w'):=fun W hb=>Q5 hok ho (hx.kid 2 (by omega)) (hh.on hf) hst hv0' (by omega) hst1 hb
  obtain ⟨R,hR⟩:∃R,Xq (Xf fs d) (Xi x 2) vs h st=R:=⟨_,rfl⟩
  obtain ⟨K1,hK1⟩:∃K1,Xi x 2=K1:=⟨_,rfl⟩
  have k5:w.cell? ⟨kb,ko+2,none⟩=some (.int .i64 K1):=by rw[←hK1];exact k4
  rw[hR,hK1] at HEA
  rw[hR]
  have l1:=X8 k1
  have l2:=X8 k2
  have l3:=X8 k3
  have l5:=X8 k5
  have l6:=X8 k6
  clear hf hst hv0 hv0' hrd hnb k4 hR hK1 hh q1 q2 q3 q4 e1 e2 e3 e4 ho hx hok
  go_enter Tryz.func153,Tryz.ntmps153
  go_wp2_with fail
  refine HC.out.mono ?_
  rintro e w1 ⟨rfl,hb1⟩
  have HB1:=Xa hb1
  have m1:=(Xc hb1 l1).trans k1
  have m2:=(Xc hb1 l2).trans k2
  have m3:=(Xc hb1 l3).trans k3
  have m5:=(Xc hb1 l5).trans k5
  have m6:=(Xc hb1 l6).trans k6
  clear k1 k2 k3 k5 k6 hb1
  go_wp2_with fail
  go_region_law (refine Jg (by rfl) 110 _ _ _ _ _ _ _ _ (by rfl) (.pointer (some ⟨E,0,none⟩)) (.int .i64 K1) (.iface t0 y0) (X5 H caps) (by rfl) (by rfl) (by rfl) (by rfl) (J4 _ _ _ _) (HEA.out _ (by first|exact HB1.out|exact HB1.out.drew)) ?_;rintro e w3 ⟨⟨ev,rfl,hev⟩,hf3,hs3⟩;refine ⟨_,rfl, ?_⟩)
  all_goals
   have HF:=Xa hf3
   have HS:=Xa hs3
   have HEV:=Xa hev
   clear hf3 hs3 hev
   go_wp2_with fail
   go_ret
   exact ⟨⟨_,rfl,HEV.out⟩,HF.out,HS.out⟩
 ·rw[if_pos rfl]
  obtain ⟨kb,ko,kcap,rfl,hkb,k4⟩:=hnb.inn.kids.get (j:=1) (by omega)
  rw[h3] at k2
  have HEA:Hid (∀W,Below w.heap.size w W→Calls Tryz.prog 110 #[.pointer (some ⟨E,0,none⟩), .int .i64 (Xi x 1),(.iface t0 y0),X5 H caps] W fun e w'=>(∃v,e= .returned v∧Jk w' (Xq (Xf fs d) (Xi x 1) vs h st).1 v)∧FrH Z E O w w'∧St B Z E O fv fs (Xq (Xf fs d) (Xi x 1) vs h st).2 w'):=fun W hb=>Q5 hok ho (hx.kid 1 (by omega)) (hh.on hf) hst hv0' (by omega) hst1 hb
  obtain ⟨R,hR⟩:∃R,Xq (Xf fs d) (Xi x 1) vs h st=R:=⟨_,rfl⟩
  obtain ⟨K1,hK1⟩:∃K1,Xi x 1=K1:=⟨_,rfl⟩
  have k5:w.cell? ⟨kb,ko+1,none⟩=some (.int .i64 K1):=by rw[←hK1];exact k4
  rw[hR,hK1] at HEA
  rw[hR]
  have l1:=X8 k1
  have l2:=X8 k2
  have l3:=X8 k3
  have l5:=X8 k5
  have l6:=X8 k6
  clear hf hst hv0 hv0' hrd hnb k4 hR hK1 hh q1 q2 q3 q4 e1 e2 e3 e4 ho hx hok
  go_enter Tryz.func153,Tryz.ntmps153
  go_wp2_with fail
  refine HC.out.mono ?_
  rintro e w1 ⟨rfl,hb1⟩
  have HB1:=Xa hb1
  have m1:=(Xc hb1 l1).trans k1
  have m2:=(Xc hb1 l2).trans k2
  have m3:=(Xc hb1 l3).trans k3
  have m5:=(Xc hb1 l5).trans k5
  have m6:=(Xc hb1 l6).trans k6
  clear k1 k2 k3 k5 k6 hb1
  go_wp2_with fail
  go_region_law (refine Jg (by rfl) 110 _ _ _ _ _ _ _ _ (by rfl) (.pointer (some ⟨E,0,none⟩)) (.int .i64 K1) (.iface t0 y0) (X5 H caps) (by rfl) (by rfl) (by rfl) (by rfl) (J4 _ _ _ _) (HEA.out _ (by first|exact HB1.out|exact HB1.out.drew)) ?_;rintro e w3 ⟨⟨ev,rfl,hev⟩,hf3,hs3⟩;refine ⟨_,rfl, ?_⟩)
  all_goals
   have HF:=Xa hf3
   have HS:=Xa hs3
   have HEV:=Xa hev
   clear hf3 hs3 hev
   go_wp2_with fail
   go_ret
   exact ⟨⟨_,rfl,HEV.out⟩,HF.out,HS.out⟩
set_option maxRecDepth 100000 in
theorem Xmi {B Z E O D:Nat} {fv:Value} {fs:List FN} {H:FuncId} {caps:Array Value} {h:Yc} {w0:World} (hh:HandOk B Z E O D fv fs w0 H caps h) {F:FuncId} {mc:Array Value} {kind:Int} (hm:MerOk Z E O w0 F mc kind) {us:List VN} {a0:Value} (ha:Rep w0 us a0) (hrd:∀w,FrH Z E O w0 w→Reads2 w0 w)
  {mb ab hb:Nat} (e1:mb≠E∧mb≠O) (e2:ab≠E∧ab≠O) (e3:hb≠E∧hb≠O) (q1:w0.cell? ⟨mb,0,none⟩=some (.func (.func F) #[] mc)) (q2:w0.cell? ⟨ab,0,none⟩=some a0) (q3:w0.cell? ⟨hb,0,none⟩=some (X5 H caps)):
  HandOk B Z E O D fv fs w0 149 #[.pointer (some ⟨mb,0,none⟩), .pointer (some ⟨ab,0,none⟩), .pointer (some ⟨hb,0,none⟩)] (fun b=>Xv (Xs kind us b) h):=by
 refine ⟨fun x w=>by kernel_rfl,fun ns st hv=>Xh4 hh.le (Xhy ha.1 hv) st,fun w hf st y ns hst1 hst hy=> ?_⟩
 show Calls Tryz.prog 149 #[y, .pointer (some ⟨mb,0,none⟩), .pointer (some ⟨ab,0,none⟩), .pointer (some ⟨hb,0,none⟩)] w _
 show Calls _ _ _ _ (Yz B Z E O fv fs (Xv (Xs kind us ns) h st) w)
 have ha':=ha.reads (hrd w hf)
 have HH:=Xa (hh.on hf)
 have HST:=Xa hst
 have HM:=Xa (hm.says w hf hst.ev.errs.now.two us ns a0 y ha' hy)
 have HMe:=Xa hm.enter
 have k1:=hf.cell mb 0 _ e1.1 e1.2 (by intro e;cases e) q1
 have k3:=hf.cell hb 0 _ e3.1 e3.2 (by intro e;cases e) q3
 obtain ⟨t0,y0,rfl⟩:=ha.iface
 have k2:=hf.cell ab 0 _ e2.1 e2.2 (by intro e;cases e) q2
 obtain ⟨ty,y1,rfl⟩:=hy.iface
 have l3:=X8 k3
 obtain ⟨R,hR⟩:∃R,Xs kind us ns=R:=⟨_,rfl⟩
 obtain ⟨Q,hQ⟩:∃Q,Xv R h st=Q:=⟨_,rfl⟩
 have HQ:=Xa hQ
 rw[hR] at HM⊢
 rw[hQ]
 clear hR hQ hh hm ha ha' hrd hf hst hy q1 q2 q3 e1 e2 e3
 go_enter Tryz.func149,Tryz.ntmps149
 go_wp2_with fail
 rw[HMe.out,Oper.upon_enter]
 refine HM.out.mono ?_
 rintro e w1 ⟨hans,hb1⟩
 have HB1:=Xa hb1
 have m3:=(Xc hb1 l3).trans k3
 clear k1 k2 k3 hb1
 rcases hans with ⟨h0,u,rfl,hr⟩|⟨h0,v,rfl,hr⟩
 ·have HOR:=Xa (Vo HH.out HST.out hst1 HB1.out (.inl ⟨h0,rfl,hr⟩))
  obtain ⟨tu,yu,rfl⟩:=hr.iface
  rw[HQ.out] at HOR
  clear h0 hr
  go_wp2_with fail
  refine HOR.out.mono ?_
  rintro e w2 ⟨⟨ev,rfl,hev⟩,hf2,hs2⟩
  have HEV:=Xa hev
  have HF2:=Xa hf2
  have HS2:=Xa hs2
  clear hev hf2 hs2
  go_wp2_with fail
  go_ret
  exact ⟨⟨_,rfl,HEV.out⟩,HF2.out,HS2.out⟩
 ·have HOR:=Xa (Vo HH.out HST.out hst1 HB1.out (.inr ⟨h0,rfl,hr⟩))
  obtain ⟨te,xe,rfl,_⟩:=hr
  rw[HQ.out] at HOR
  obtain ⟨C,hC⟩:∃C,R.1=C:=⟨_,rfl⟩
  rw[hC] at HOR⊢
  clear h0 hC
  go_wp2_with fail
  refine HOR.out.mono ?_
  rintro e w2 ⟨⟨ev,rfl,hev⟩,hf2,hs2⟩
  have HEV:=Xa hev
  have HF2:=Xa hf2
  have HS2:=Xa hs2
  clear hev hf2 hs2
  go_wp2_with fail
  go_ret
  exact ⟨⟨_,rfl,HEV.out⟩,HF2.out,HS2.out⟩
set_option maxRecDepth 100000 in
theorem Xob {B Z E O D:Nat} {fv:Value} {fs:List FN} {d:Nat} (hok:okF fs=true) (ho:Qr B E fv fs d) {x:FN} (hx:NodeOk fs x) (h2:x.kids.length=2) {kc kn ki:Value} {H:FuncId} {caps:Array Value} {h:Yc} {w0:World} (hh:HandOk B Z E O D fv fs w0 H caps h) (hD:D≤d) (hBE:B≤E) (hBZ:B≤Z)
  {F:FuncId} {mc:Array Value} {kind:Int} (hm:MerOk Z E O w0 F mc kind) {vs:List VN} {v0:Value} (hv0:Rep w0 vs v0) (hrd:∀w,FrH Z E O w0 w→Reads2 w0 w) (hZ:Z≤w0.heap.size) (hOl:O<w0.heap.size) (hEl:E<w0.heap.size)
  {eb nb vb mb hb:Nat} (e1:eb≠E∧eb≠O) (e2:nb≠E∧nb≠O) (e4:vb≠E∧vb≠O) (e5:mb≠E∧mb≠O) (e3:hb≠E∧hb≠O) (q1:w0.cell? ⟨eb,0,none⟩=some (.pointer (some ⟨E,0,none⟩))) (q2:NodeBox B w0 nb x kc kn ki) (q4:w0.cell? ⟨vb,0,none⟩=some v0) (q5:w0.cell? ⟨mb,0,none⟩=some (.func (.func F) #[] mc)) (q3:w0.cell? ⟨hb,0,none⟩=some (X5 H caps)):
  HandOk B Z E O D fv fs w0 148 #[.pointer (some ⟨eb,0,none⟩), .pointer (some ⟨nb,0,none⟩), .pointer (some ⟨vb,0,none⟩), .pointer (some ⟨mb,0,none⟩), .pointer (some ⟨hb,0,none⟩)] (fun a=>Xq (Xf fs d) (Xi x 1) vs (fun b=>Xv (Xs kind a b) h)):=by
 refine ⟨fun x w=>by kernel_rfl,fun ns st hv=>Xbu hok d (fun ms st hm'=>Xh4 hh.le (Xhy hv hm') st) _ hv0.1 st,fun w hf st y ns hst1 hst hy=> ?_⟩
 show Calls Tryz.prog 148 #[y, .pointer (some ⟨eb,0,none⟩), .pointer (some ⟨nb,0,none⟩), .pointer (some ⟨vb,0,none⟩), .pointer (some ⟨mb,0,none⟩), .pointer (some ⟨hb,0,none⟩)] w _
 show Calls _ _ _ _ (Yz B Z E O fv fs (Xq (Xf fs d) (Xi x 1) vs (fun b=>Xv (Xs kind ns b) h) st) w)
 have hv0':=hv0.reads (hrd w hf)
 have k1:=hf.cell eb 0 _ e1.1 e1.2 (by intro e;cases e) q1
 have k3:=hf.cell hb 0 _ e3.1 e3.2 (by intro e;cases e) q3
 have k7:=hf.cell mb 0 _ e5.1 e5.2 (by intro e;cases e) q5
 obtain ⟨t0,y0,rfl⟩:=hv0.iface
 have k6:=hf.cell vb 0 _ e4.1 e4.2 (by intro e;cases e) q4
 have hnb:=q2.on hf e2.1 e2.2 hBE hBZ
 have k2:=hnb.c5
 obtain ⟨kb,ko,kcap,rfl,hkb,k4⟩:=hnb.inn.kids.get (j:=1) (by omega)
 rw[h2] at k2
 have hsz:=hf.size
 obtain ⟨W1,hW1⟩:∃W1,w.alloc (.cells #[y] 52)=W1:=⟨_,rfl⟩
 have HB1:Below w.heap.size w W1:=by rw[←hW1];exact (Below.refl _ _).alloc (Nat.le_refl _) _
 have hf1:FrH Z E O w W1:= .of_below HB1 hst.hZ
 have hy1:=hy.below HB1
 have n1:W1.cell? ⟨w.heap.size,0,none⟩=some y:=by rw[←hW1];simp
 have n3:=hf1.cell hb 0 _ e3.1 e3.2 (by intro e;cases e) k3
 have n7:=hf1.cell mb 0 _ e5.1 e5.2 (by intro e;cases e) k7
 have hmh:=Xmi (hh.on (hf.trans hf1)) (hm.on (hf.trans hf1)) hy1 (fun w' h'=>(hst.below HB1).reads h') (mb:=mb) (ab:=w.heap.size) (hb:=hb) e5 ⟨by omega,by omega⟩ e3 n7 n1 n3
 have HEA:Hid (∀W,Below W1.heap.size W1 W→Calls Tryz.prog 110 #[.pointer (some ⟨E,0,none⟩), .int .i64 (Xi x 1), .iface t0 y0,X5 149 #[.pointer (some ⟨mb,0,none⟩), .pointer (some ⟨w.heap.size,0,none⟩), .pointer (some ⟨hb,0,none⟩)]] W fun e w'=>(∃v,e= .returned v∧Jk w' (Xq (Xf fs d) (Xi x 1) vs (fun b=>Xv (Xs kind ns b) h) st).1 v)∧FrH Z E O W1 w'∧St B Z E O fv fs (Xq (Xf fs d) (Xi x 1) vs (fun b=>Xv (Xs kind ns b) h) st).2 w'):=fun W hb=>Q5 hok ho (hx.kid 1 (by omega)) hmh (hst.below HB1) (hv0'.below HB1) (by omega) hst1 hb
 have HF1:=Xa hf1
 obtain ⟨ty,y1,rfl⟩:=hy.iface
 obtain ⟨R,hR⟩:∃R,Xq (Xf fs d) (Xi x 1) vs (fun b=>Xv (Xs kind ns b) h) st=R:=⟨_,rfl⟩
 obtain ⟨K1,hK1⟩:∃K1,Xi x 1=K1:=⟨_,rfl⟩
 have k5:w.cell? ⟨kb,ko+1,none⟩=some (.int .i64 K1):=by rw[←hK1];exact k4
 rw[hR,hK1] at HEA
 rw[hR]
 have l1:=X8 k1
 have l2:=X8 k2
 have l5:=X8 k5
 have l6:=X8 k6
 have HW:=Xa hW1
 clear hf hst hv0 hv0' hrd hnb k3 k7 k4 hR hK1 hh hm hmh q1 q2 q3 q4 q5 e1 e2 e3 e4 e5 ho hx hok n1 n3 n7 hy hy1 hf1 HB1 hW1
 go_enter Tryz.func148,Tryz.ntmps148
 go_wp2_with fail
 go_region_law (refine Jg (by rfl) 110 _ _ _ _ _ _ _ _ (by rfl) (.pointer (some ⟨E,0,none⟩)) (.int .i64 K1) (.iface t0 y0) (X5 149 #[.pointer (some ⟨mb,0,none⟩), .pointer (some ⟨w.heap.size,0,none⟩), .pointer (some ⟨hb,0,none⟩)]) (by rfl) (by rfl) (by rfl) (by rfl) (J4 _ _ _ _) (HEA.out _ (by rw[←HW.out];first|exact Below.refl _ _|exact (Below.refl _ _).drew)) ?_;rintro e w3 ⟨⟨ev,rfl,hev⟩,hf3,hs3⟩;refine ⟨_,rfl, ?_⟩)
 all_goals
  have HF:=Xa (HF1.out.trans hf3)
  have HS:=Xa hs3
  have HEV:=Xa hev
  clear hf3 hs3 hev
  go_wp2_with fail
  go_ret
  exact ⟨⟨_,rfl,HEV.out⟩,HF.out,HS.out⟩

set_option maxRecDepth 100000 in
theorem Xkm {B Z E O d:Nat} {fv:Value} {fs:List FN} (hok:okF fs=true) (ho:Qr B E fv fs d) {x:FN} (hx:NodeOk fs x) (k:x.kind=10) {kc kn ki v:Value} {ns:List VN} {H:FuncId} {caps:Array Value} {h:Yc} {st:Xt} {w:World} (hin:FNodeIn B w x kc kn ki) (hh:HandOk B Z E O d fv fs w H caps h) (hst:St B Z E O fv fs st w) (hv:Rep w ns v) (hd:st.1≤d):
  Calls Tryz.prog 114 #[.pointer (some ⟨E,0,none⟩),Ya x kc kn ki,v,X5 H caps] w (Yz B Z E O fv fs (Xq (Xf fs d) (Xi x 0) ns (fun y st=>if Xx y=true then h ns st else (0,st)) st) w):=by
 have HN:=Xa hin
 have HH:=Xa hh
 have HST:=Xa hst
 have HV:=Xa hv
 have HX:=Xa hx
 obtain ⟨_,aC,cC,rfl,_⟩:=hin.cst
 obtain ⟨_,_,aK,cK,rfl,_⟩:=hin.names
 obtain ⟨_,_,aI,cI,rfl,_⟩:=hin.kids
 obtain ⟨ty,y,rfl⟩:=hv.iface
 have hO:=hst.hO
 have hZw:=hst.hZ
 have hEZ:=hst.hEZ
 have hBZ:=hst.hBZ
 have hBE:=hst.ev.hBE
 obtain ⟨W3,hW3⟩:∃W3,((w.alloc (.cells #[.int .i64 x.kind, .string x.name, .int .i64 x.place, .slice aC x.cst.length cC, .slice aK x.names.length cK, .slice aI x.kids.length cI] 84)).alloc (.cells #[.iface ty y] 52)).alloc (.cells #[.func (.func H) #[] caps] 161)=W3:=⟨_,rfl⟩
 have HB3:Hid (Below w.heap.size w W3):=by rw[Hid,←hW3];exact ((((Below.refl w.heap.size w).alloc (Nat.le_refl _) _).alloc (by simp<;>omega) _).alloc (by simp<;>omega) _)
 have HF3:Hid (FrH Z E O w W3):= .of_below HB3.out hst.hZ
 have cn0:W3.cell? ⟨w.heap.size,0,none⟩=some (.int .i64 x.kind):=by rw[←hW3];rw[World.cell?_alloc_past _ _ _ (by simp<;>omega)];rw[World.cell?_alloc_past _ _ _ (by simp<;>omega)];rw[World.cell?_alloc_at _ _ _ _ (by simp)];rfl
 have cn1:W3.cell? ⟨w.heap.size,1,none⟩=some (.string x.name):=by rw[←hW3];rw[World.cell?_alloc_past _ _ _ (by simp<;>omega)];rw[World.cell?_alloc_past _ _ _ (by simp<;>omega)];rw[World.cell?_alloc_at _ _ _ _ (by simp)];rfl
 have cn2:W3.cell? ⟨w.heap.size,2,none⟩=some (.int .i64 x.place):=by rw[←hW3];rw[World.cell?_alloc_past _ _ _ (by simp<;>omega)];rw[World.cell?_alloc_past _ _ _ (by simp<;>omega)];rw[World.cell?_alloc_at _ _ _ _ (by simp)];rfl
 have cn3:W3.cell? ⟨w.heap.size,3,none⟩=some (.slice aC x.cst.length cC):=by rw[←hW3];rw[World.cell?_alloc_past _ _ _ (by simp<;>omega)];rw[World.cell?_alloc_past _ _ _ (by simp<;>omega)];rw[World.cell?_alloc_at _ _ _ _ (by simp)];rfl
 have cn4:W3.cell? ⟨w.heap.size,4,none⟩=some (.slice aK x.names.length cK):=by rw[←hW3];rw[World.cell?_alloc_past _ _ _ (by simp<;>omega)];rw[World.cell?_alloc_past _ _ _ (by simp<;>omega)];rw[World.cell?_alloc_at _ _ _ _ (by simp)];rfl
 have cn5:W3.cell? ⟨w.heap.size,5,none⟩=some (.slice aI x.kids.length cI):=by rw[←hW3];rw[World.cell?_alloc_past _ _ _ (by simp<;>omega)];rw[World.cell?_alloc_past _ _ _ (by simp<;>omega)];rw[World.cell?_alloc_at _ _ _ _ (by simp)];rfl
 have HNB:Hid (NodeBox B W3 (w.heap.size) x (.slice aC x.cst.length cC) (.slice aK x.names.length cK) (.slice aI x.kids.length cI)):=⟨cn0,cn1,cn2,cn3,cn4,cn5,hin.below (HB3.out.mono (by omega))⟩
 have cv:W3.cell? ⟨w.heap.size+1,0,none⟩=some (.iface ty y):=by rw[←hW3];rw[World.cell?_alloc_past _ _ _ (by simp<;>omega)];rw[World.cell?_alloc_at _ _ _ _ (by simp)];rfl
 have ch:W3.cell? ⟨w.heap.size+2,0,none⟩=some (.func (.func H) #[] caps):=by rw[←hW3];rw[World.cell?_alloc_at _ _ _ _ (by simp)];rfl
 have HS3:Hid (St B Z E O fv fs st W3):=hst.below HB3.out
 have HV3:=Xa (HV.out.below HB3.out)
 have HH3:=Xa (hh.on HF3.out)
 have hz3:W3.heap.size=w.heap.size+3:=by rw[←hW3];simp
 obtain ⟨kb,ko,kcap,ek,hkb,k4⟩:=(hin.below (HB3.out.mono (by omega))).kids.get (j:=0) (by first|(have:=hx.one (.inl k);omega)|(have:=hx.three k;omega))
 injection ek with ek1 ek2 ek3
 subst ek1 ek3
 have HHD:=Xa (Xr9 HH3.out HV3.out ⟨by omega,by omega⟩ ⟨by omega,by omega⟩ ch cv (fun w' hf=>HS3.out.reads hf))
 obtain ⟨R,hR⟩:∃R,Xq (Xf fs d) (Xi x 0) ns (fun y st=>if Xx y=true then h ns st else (0,st)) st=R:=⟨_,rfl⟩
 have HEA:Hid (∀W,Below W3.heap.size W3 W→Calls Tryz.prog 110 #[.pointer (some ⟨E,0,none⟩), .int .i64 (Xi x 0), .iface ty y,X5 145 #[.pointer (some ⟨w.heap.size+2,0,none⟩), .pointer (some ⟨w.heap.size+1,0,none⟩)]] W fun e w'=>(∃v,e= .returned v∧Jk w' R.1 v)∧FrH Z E O W3 w'∧St B Z E O fv fs R.2 w'):=fun W hb=>by
  rw[←hR]
  exact Q5 hok ho (hx.kid 0 (by first|(have:=hx.one (.inl k);omega)|(have:=hx.three k;omega))) HHD.out HS3.out HV3.out hd hd hb
 rw[hR]
 obtain ⟨K1,hK1⟩:∃K1,Xi x 0=K1:=⟨_,rfl⟩
 have k5:W3.cell? ⟨kb,ko,none⟩=some (.int .i64 K1):=by rw[←hK1];unfold Xi;simpa using k4
 rw[hK1] at HEA
 have hlp:0<x.kids.length:=by have:=hx.one (.inl k);omega
 have hlp2:(0:Int)<(x.kids.length:Int):=by omega
 have lkb:kb<w.heap.size:=by omega
 have HW3:=Xa hW3
 clear hin hh hst hv hx hok ho hR hK1 k4 HHD k
 go_enter Tryz.func114,Tryz.ntmps114
 go_wp2_with fail
 go_region_law (refine Jg (by rfl) 110 _ _ _ _ _ _ _ _ (by rfl) (.pointer (some ⟨E,0,none⟩)) (.int .i64 K1) (.iface ty y) (X5 145 #[.pointer (some ⟨w.heap.size+2,0,none⟩), .pointer (some ⟨w.heap.size+1,0,none⟩)]) (by rfl) (by rfl) (by rfl) (by rfl) (J4 _ _ _ _) (HEA.out _ (by first|exact Below.refl _ _|exact (Below.refl _ _).drew)) ?_;rintro e w4 ⟨⟨ev,rfl,hev⟩,hf3,hs3⟩;refine ⟨_,rfl, ?_⟩)
 all_goals
  have HF:=Xa (HF3.out.trans hf3)
  have HS:=Xa hs3
  have HEV:=Xa hev
  clear hf3 hs3 hev
  go_wp2_with fail
  go_ret
  exact ⟨⟨_,rfl,HEV.out⟩,HF.out,HS.out⟩
set_option maxRecDepth 100000 in
theorem Xuz {B Z E O d:Nat} {fv:Value} {fs:List FN} (hok:okF fs=true) (ho:Qr B E fv fs d) {x:FN} (hx:NodeOk fs x) (k:x.kind=22) {kc kn ki v:Value} {ns:List VN} {H:FuncId} {caps:Array Value} {h:Yc} {st:Xt} {w:World} (hin:FNodeIn B w x kc kn ki) (hh:HandOk B Z E O d fv fs w H caps h) (hst:St B Z E O fv fs st w) (hv:Rep w ns v) (hd:st.1≤d):
  Calls Tryz.prog 117 #[.pointer (some ⟨E,0,none⟩),Ya x kc kn ki,v,X5 H caps] w (Yz B Z E O fv fs (Xq (Xf fs d) (Xi x 0) ns (fun y=>if Xx y=true then Xq (Xf fs d) (Xi x 1) ns h else Xq (Xf fs d) (Xi x 2) ns h) st) w):=by
 have HN:=Xa hin
 have HH:=Xa hh
 have HST:=Xa hst
 have HV:=Xa hv
 have HX:=Xa hx
 obtain ⟨_,aC,cC,rfl,_⟩:=hin.cst
 obtain ⟨_,_,aK,cK,rfl,_⟩:=hin.names
 obtain ⟨_,_,aI,cI,rfl,_⟩:=hin.kids
 obtain ⟨ty,y,rfl⟩:=hv.iface
 have hO:=hst.hO
 have hZw:=hst.hZ
 have hEZ:=hst.hEZ
 have hBZ:=hst.hBZ
 have hBE:=hst.ev.hBE
 obtain ⟨W3,hW3⟩:∃W3,(((w.alloc (.cells #[.pointer (some ⟨E,0,none⟩)] 103)).alloc (.cells #[.int .i64 x.kind, .string x.name, .int .i64 x.place, .slice aC x.cst.length cC, .slice aK x.names.length cK, .slice aI x.kids.length cI] 84)).alloc (.cells #[.iface ty y] 52)).alloc (.cells #[.func (.func H) #[] caps] 161)=W3:=⟨_,rfl⟩
 have HB3:Hid (Below w.heap.size w W3):=by rw[Hid,←hW3];exact (((((Below.refl w.heap.size w).alloc (Nat.le_refl _) _).alloc (by simp<;>omega) _).alloc (by simp<;>omega) _).alloc (by simp<;>omega) _)
 have HF3:Hid (FrH Z E O w W3):= .of_below HB3.out hst.hZ
 have ce:W3.cell? ⟨w.heap.size,0,none⟩=some (.pointer (some ⟨E,0,none⟩)):=by rw[←hW3];rw[World.cell?_alloc_past _ _ _ (by simp<;>omega)];rw[World.cell?_alloc_past _ _ _ (by simp<;>omega)];rw[World.cell?_alloc_past _ _ _ (by simp<;>omega)];rw[World.cell?_alloc_at _ _ _ _ (by simp)];rfl
 have cn0:W3.cell? ⟨w.heap.size+1,0,none⟩=some (.int .i64 x.kind):=by rw[←hW3];rw[World.cell?_alloc_past _ _ _ (by simp<;>omega)];rw[World.cell?_alloc_past _ _ _ (by simp<;>omega)];rw[World.cell?_alloc_at _ _ _ _ (by simp)];rfl
 have cn1:W3.cell? ⟨w.heap.size+1,1,none⟩=some (.string x.name):=by rw[←hW3];rw[World.cell?_alloc_past _ _ _ (by simp<;>omega)];rw[World.cell?_alloc_past _ _ _ (by simp<;>omega)];rw[World.cell?_alloc_at _ _ _ _ (by simp)];rfl
 have cn2:W3.cell? ⟨w.heap.size+1,2,none⟩=some (.int .i64 x.place):=by rw[←hW3];rw[World.cell?_alloc_past _ _ _ (by simp<;>omega)];rw[World.cell?_alloc_past _ _ _ (by simp<;>omega)];rw[World.cell?_alloc_at _ _ _ _ (by simp)];rfl
 have cn3:W3.cell? ⟨w.heap.size+1,3,none⟩=some (.slice aC x.cst.length cC):=by rw[←hW3];rw[World.cell?_alloc_past _ _ _ (by simp<;>omega)];rw[World.cell?_alloc_past _ _ _ (by simp<;>omega)];rw[World.cell?_alloc_at _ _ _ _ (by simp)];rfl
 have cn4:W3.cell? ⟨w.heap.size+1,4,none⟩=some (.slice aK x.names.length cK):=by rw[←hW3];rw[World.cell?_alloc_past _ _ _ (by simp<;>omega)];rw[World.cell?_alloc_past _ _ _ (by simp<;>omega)];rw[World.cell?_alloc_at _ _ _ _ (by simp)];rfl
 have cn5:W3.cell? ⟨w.heap.size+1,5,none⟩=some (.slice aI x.kids.length cI):=by rw[←hW3];rw[World.cell?_alloc_past _ _ _ (by simp<;>omega)];rw[World.cell?_alloc_past _ _ _ (by simp<;>omega)];rw[World.cell?_alloc_at _ _ _ _ (by simp)];rfl
 have HNB:Hid (NodeBox B W3 (w.heap.size+1) x (.slice aC x.cst.length cC) (.slice aK x.names.length cK) (.slice aI x.kids.length cI)):=⟨cn0,cn1,cn2,cn3,cn4,cn5,hin.below (HB3.out.mono (by omega))⟩
 have cv:W3.cell? ⟨w.heap.size+2,0,none⟩=some (.iface ty y):=by rw[←hW3];rw[World.cell?_alloc_past _ _ _ (by simp<;>omega)];rw[World.cell?_alloc_at _ _ _ _ (by simp)];rfl
 have ch:W3.cell? ⟨w.heap.size+3,0,none⟩=some (.func (.func H) #[] caps):=by rw[←hW3];rw[World.cell?_alloc_at _ _ _ _ (by simp)];rfl
 have HS3:Hid (St B Z E O fv fs st W3):=hst.below HB3.out
 have HV3:=Xa (HV.out.below HB3.out)
 have HH3:=Xa (hh.on HF3.out)
 have hz3:W3.heap.size=w.heap.size+4:=by rw[←hW3];simp
 obtain ⟨kb,ko,kcap,ek,hkb,k4⟩:=(hin.below (HB3.out.mono (by omega))).kids.get (j:=0) (by first|(have:=hx.one (.inl k);omega)|(have:=hx.three k;omega))
 injection ek with ek1 ek2 ek3
 subst ek1 ek3
 have HHD:=Xa (X26 hok ho hx (hx.three k) HH3.out (Nat.le_refl _) hBE (by omega) HV3.out (fun w' hf=>HS3.out.reads hf) ⟨by omega,by omega⟩ ⟨by omega,by omega⟩ ⟨by omega,by omega⟩ ⟨by omega,by omega⟩ ce HNB.out cv ch)
 obtain ⟨R,hR⟩:∃R,Xq (Xf fs d) (Xi x 0) ns (fun y=>if Xx y=true then Xq (Xf fs d) (Xi x 1) ns h else Xq (Xf fs d) (Xi x 2) ns h) st=R:=⟨_,rfl⟩
 have HEA:Hid (∀W,Below W3.heap.size W3 W→Calls Tryz.prog 110 #[.pointer (some ⟨E,0,none⟩), .int .i64 (Xi x 0), .iface ty y,X5 153 #[.pointer (some ⟨w.heap.size,0,none⟩), .pointer (some ⟨w.heap.size+1,0,none⟩), .pointer (some ⟨w.heap.size+2,0,none⟩), .pointer (some ⟨w.heap.size+3,0,none⟩)]] W fun e w'=>(∃v,e= .returned v∧Jk w' R.1 v)∧FrH Z E O W3 w'∧St B Z E O fv fs R.2 w'):=fun W hb=>by
  rw[←hR]
  exact Q5 hok ho (hx.kid 0 (by first|(have:=hx.one (.inl k);omega)|(have:=hx.three k;omega))) HHD.out HS3.out HV3.out hd hd hb
 rw[hR]
 obtain ⟨K1,hK1⟩:∃K1,Xi x 0=K1:=⟨_,rfl⟩
 have k5:W3.cell? ⟨kb,ko,none⟩=some (.int .i64 K1):=by rw[←hK1];unfold Xi;simpa using k4
 rw[hK1] at HEA
 have hlp:0<x.kids.length:=by have:=hx.three k;omega
 have hlp2:(0:Int)<(x.kids.length:Int):=by omega
 have lkb:kb<w.heap.size:=by omega
 have HW3:=Xa hW3
 clear hin hh hst hv hx hok ho hR hK1 k4 HHD k
 go_enter Tryz.func117,Tryz.ntmps117
 go_wp2_with fail
 go_region_law (refine Jg (by rfl) 110 _ _ _ _ _ _ _ _ (by rfl) (.pointer (some ⟨E,0,none⟩)) (.int .i64 K1) (.iface ty y) (X5 153 #[.pointer (some ⟨w.heap.size,0,none⟩), .pointer (some ⟨w.heap.size+1,0,none⟩), .pointer (some ⟨w.heap.size+2,0,none⟩), .pointer (some ⟨w.heap.size+3,0,none⟩)]) (by rfl) (by rfl) (by rfl) (by rfl) (J4 _ _ _ _) (HEA.out _ (by first|exact Below.refl _ _|exact (Below.refl _ _).drew)) ?_;rintro e w4 ⟨⟨ev,rfl,hev⟩,hf3,hs3⟩;refine ⟨_,rfl, ?_⟩)
 all_goals
  have HF:=Xa (HF3.out.trans hf3)
  have HS:=Xa hs3
  have HEV:=Xa hev
  clear hf3 hs3 hev
  go_wp2_with fail
  go_ret
  exact ⟨⟨_,rfl,HEV.out⟩,HF.out,HS.out⟩

set_option maxRecDepth 100000 in
theorem Xpu {B Z E O D:Nat} {fv:Value} {fs:List FN} {v:Value} {ns:List VN} {H:FuncId} {caps:Array Value} {h:Yc} {st:Xt} {w:World} (hh:HandOk B Z E O D fv fs w H caps h) (hst:St B Z E O fv fs st w) (hv:Rep w ns v) (hD:st.1≤D):
  Calls Tryz.prog 109 #[v,X5 H caps] w (Yz B Z E O fv fs (if (Xd ns).kind=5∨(Xd ns).kind=6 then Xo h (Ys ns) st else (2,st)) w):=by
 have HH:=Xa hh
 have HST:=Xa hst
 have HE:Hid (∀w',Below w.heap.size w w'→Errs w'):=fun w' hb=>(hst.ev.errs.now.two.errs).below hb
 have HD:=Xa hD
 have h80:(Ys ns).length≤1000:=by
  have p:=Xp hv.1
  have:=p.2.2.2 (ns.length-1) (by omega)
  rw[Qv];unfold Xe;omega
 rcases hv.cases with ⟨k,rfl⟩|⟨k,rfl⟩|⟨k,rfl⟩|⟨k,rfl⟩|⟨k,it,rfl,hi⟩|⟨k,ks,it,rfl,hs,hi⟩
 case inr.inr.inr.inr.inl=>
  rw[if_pos (.inl k)]
  have HI:=Xa hi
  obtain ⟨_,a,c,rfl,_⟩:=hi
  obtain ⟨R,hR⟩:∃R,Xo h (Ys ns) st=R:=⟨_,rfl⟩
  have HALL:Hid (∀W,Below w.heap.size w W→Calls Tryz.prog 141 #[.slice a (Ys ns).length c,X5 H caps] W (Yz B Z E O fv fs R W)):=fun W hb=>by
   rw[←hR]
   exact Gz (HH.out.on (.of_below hb HST.out.hZ)) (HST.out.below hb) (HI.out.reads (ButE.reads (.of_below (E:=E) hb) HST.out.ev)) HD.out
  obtain ⟨M,hM⟩:∃M,(Ys ns).length=M:=⟨_,rfl⟩
  rw[hM] at HALL⊢
  rw[hR]
  clear hv hst hh k hR hM hD h80
  go_enter Tryz.func109,Tryz.ntmps109
  go_wp2_with fail
  refine (V8 _ _ _ _).mono ?_
  rintro e w1 ⟨rfl,hb1⟩
  have HB1:=Xa hb1
  clear hb1
  go_wp2_with fail
  refine (Ki _ _ _ _).mono ?_
  rintro e w2 ⟨rfl,hb2⟩
  have HB2:=Xa (HB1.out.trans (hb2.mono HB1.out.size))
  clear hb2
  go_wp2_with fail
  refine (HALL.out w2 HB2.out).mono ?_
  rintro e w3 ⟨⟨ev,rfl,hev⟩,hf3,hs3⟩
  have HEV:=Xa hev
  have HF3:Hid (FrH Z E O w w3):=(FrH.of_below HB2.out HST.out.hZ).trans hf3
  have HS3:=Xa hs3
  clear hev hf3 hs3
  go_wp2_with fail
  go_ret
  exact ⟨⟨_,rfl,HEV.out⟩,HF3.out,HS3.out⟩
 case inr.inr.inr.inr.inr=>
  rw[if_pos (.inr k)]
  have HI:=Xa hi
  obtain ⟨_,a,c,rfl,_⟩:=hi
  obtain ⟨_,_,a',c',rfl,_⟩:=hs
  obtain ⟨R,hR⟩:∃R,Xo h (Ys ns) st=R:=⟨_,rfl⟩
  have HALL:Hid (∀W,Below w.heap.size w W→Calls Tryz.prog 141 #[.slice a (Ys ns).length c,X5 H caps] W (Yz B Z E O fv fs R W)):=fun W hb=>by
   rw[←hR]
   exact Gz (HH.out.on (.of_below hb HST.out.hZ)) (HST.out.below hb) (HI.out.reads (ButE.reads (.of_below (E:=E) hb) HST.out.ev)) HD.out
  obtain ⟨M,hM⟩:∃M,(Ys ns).length=M:=⟨_,rfl⟩
  rw[hM] at HALL⊢
  rw[hR]
  obtain ⟨LK,hLK⟩:∃LK,(Xd ns).keys.length=LK:=⟨_,rfl⟩
  rw[hLK]
  clear hv hst hh k hR hM hD h80 hLK
  go_enter Tryz.func109,Tryz.ntmps109
  go_wp2_with fail
  refine (Va _ _ _ _ _ _ _).mono ?_
  rintro e w1 ⟨rfl,hb1⟩
  have HB1:=Xa hb1
  clear hb1
  go_wp2_with fail
  refine (Va _ _ _ _ _ _ _).mono ?_
  rintro e w1' ⟨rfl,hb1⟩
  have HB1':=Xa (HB1.out.trans (hb1.mono HB1.out.size))
  clear hb1
  go_wp2_with fail
  refine (Uu _ _ _ _ _ _ _).mono ?_
  rintro e w2 ⟨rfl,hb2⟩
  have HB2:=Xa (HB1'.out.trans (hb2.mono HB1'.out.size))
  clear hb2
  go_wp2_with fail
  refine (HALL.out w2 HB2.out).mono ?_
  rintro e w3 ⟨⟨ev,rfl,hev⟩,hf3,hs3⟩
  have HEV:=Xa hev
  have HF3:Hid (FrH Z E O w w3):=(FrH.of_below HB2.out HST.out.hZ).trans hf3
  have HS3:=Xa hs3
  clear hev hf3 hs3
  go_wp2_with fail
  go_ret
  exact ⟨⟨_,rfl,HEV.out⟩,HF3.out,HS3.out⟩
 all_goals
  rw[if_neg (by omega)]
  clear hv hst hh k hD h80
  go_enter Tryz.func109,Tryz.ntmps109
  go_wp2_with fail
  first
   |refine (K6 _).mono ?_
   |refine (K7 _ _).mono ?_
   |refine (K8 _ _).mono ?_
   |refine (K9 _ _).mono ?_
  rintro e w1 ⟨rfl,hb1⟩
  have HB1:=Xa hb1
  clear hb1
  go_wp2_with fail
  first
   |refine (K6 _).mono ?_
   |refine (K7 _ _).mono ?_
   |refine (K8 _ _).mono ?_
   |refine (K9 _ _).mono ?_
  rintro e w2 ⟨rfl,hb2⟩
  have HB2:=Xa (HB1.out.trans (hb2.mono HB1.out.size))
  clear hb2
  go_wp2_with fail
  refine (Zy _ (HE.out _ HB2.out)).mono ?_
  rintro e w3 ⟨⟨u,rfl,te,xe,rfl,hrs⟩,rfl⟩
  have HRS:=Xa hrs
  clear hrs
  go_wp2_with fail
  go_ret
  exact ⟨⟨_,rfl, .inr ⟨(show (2:Int)≠0 by decide),te,xe,rfl,HRS.out⟩⟩, .of_below HB2.out HST.out.hZ,HST.out.below HB2.out⟩
set_option maxRecDepth 100000 in
theorem Xr8 {B Z E O d:Nat} {fv:Value} {fs:List FN} (hok:okF fs=true) (ho:Qr B E fv fs d) {x:FN} (hx:NodeOk fs x) (h1:x.kids.length=1) {kc kn ki v:Value} {ns:List VN} {H:FuncId} {caps:Array Value} {h:Yc} {st:Xt} {w:World} (hin:FNodeIn B w x kc kn ki) (hh:HandOk B Z E O d fv fs w H caps h) (hst:St B Z E O fv fs st w) (hv:Rep w ns v) (hd:st.1≤d):
  Calls Tryz.prog 118 #[.pointer (some ⟨E,0,none⟩),Ya x kc kn ki,v,X5 H caps] w (Yz B Z E O fv fs (Xa7 h (Zq (Xf fs d (Xi x 0).toNat ns st.1)) st.2) w):=by
 have HH:=Xa hh
 have HST:=Xa hst
 obtain ⟨_,aC,cC,rfl,_⟩:=hin.cst
 obtain ⟨_,_,aK,cK,rfl,_⟩:=hin.names
 obtain ⟨kb,ko,kcap,rfl,hkb,k4⟩:=hin.kids.get (j:=0) (by omega)
 obtain ⟨ty,y,rfl⟩:=hv.iface
 have hk:=hx.kid 0 (by omega)
 obtain ⟨K1,hK1⟩:∃K1:Nat,Xi x 0=(K1:Int):=⟨(Xi x 0).toNat,by omega⟩
 have k5:w.cell? ⟨kb,ko,none⟩=some (.int .i64 (K1:Int)):=by rw[←hK1];unfold Xi;simpa using k4
 obtain ⟨r,hr⟩:∃r,Zq (Xf fs d K1 ns st.1)=r:=⟨_,rfl⟩
 have hgood:(∀x∈r.l,okB x=true)∧r.fu≤st.1:=by rw[←hr];exact Xay (Yr hok d) K1 hv.1 st.1
 rw[hK1,Int.toNat_natCast,hr]
 have hB3:Below w.heap.size w (w.alloc (.cells #[.int .i64 x.kind, .string x.name, .int .i64 x.place, .slice aC x.cst.length cC, .slice aK x.names.length cK, .slice (some ⟨kb,ko,none⟩) x.kids.length kcap] 84)):=(Below.refl _ _).alloc (Nat.le_refl _) _
 have HB3:=Xa hB3
 have HOR:=Xa (Xim ho K1 (.iface ty y) ns st.1 _ (by rw[hK1] at hk;simpa using hk.2) (hst.ev.below hB3) (hv.below hB3) hd)
 rw[hr] at HOR
 have lkb:=X8 k5
 obtain ⟨Q,hQ⟩:∃Q,Xa7 h r st.2=Q:=⟨_,rfl⟩
 have HQ:=Xa hQ
 have HLE:Hid (r.fu≤d):=Nat.le_trans hgood.2 hd
 rw[hQ]
 rw[h1]
 rw[h1] at HB3 HOR
 clear hh hst hin hv hB3 hr hQ k4 hK1 hk hgood ho hok hx hd h1
 go_enter Tryz.func118,Tryz.ntmps118
 go_wp2_with fail
 refine HOR.out.mono ?_
 rintro e w1 ⟨it,ev,rfl,hans,hb,he⟩
 have HS1:=Xa ((HST.out.below HB3.out).step hb he)
 have HF1:Hid (FrH Z E O w w1):=(FrH.of_below HB3.out HST.out.hZ).trans (hb.frh (Nat.le_trans HST.out.hZ HB3.out.size))
 clear hb he
 rcases hans with ⟨h1,rfl,hit⟩|⟨h1,rfl,te,xe,rfl,hrs⟩
 ·have HIT:=Xa hit
  obtain ⟨_,a,c,rfl,_⟩:=hit
  have HQ2:Hid (Q=Xo h r.l (r.fu,st.2)):=by rw[Hid,←HQ.out];unfold Xa7;rw[if_pos h1]
  have HALL:=Xa (Gz (HH.out.on HF1.out) HS1.out HIT.out HLE.out)
  rw[←HQ2.out] at HALL
  obtain ⟨M,hM⟩:∃M,r.l.length=M:=⟨_,rfl⟩
  rw[hM] at HALL⊢
  clear h1 hM
  go_wp2_with fail
  refine HALL.out.mono ?_
  rintro e w3 ⟨⟨ev,rfl,hev⟩,hf3,hs3⟩
  have HEV:=Xa hev
  have HF3:=Xa (HF1.out.trans hf3)
  have HS3:=Xa hs3
  clear hev hf3 hs3
  go_wp2_with fail
  go_ret
  exact ⟨⟨_,rfl,HEV.out⟩,HF3.out,HS3.out⟩
 ·have HQ2:Hid (Q=(r.c,(r.fu,st.2))):=by rw[Hid,←HQ.out];unfold Xa7;rw[if_neg h1]
  have H1:=Xa h1
  have HRS:=Xa hrs
  obtain ⟨C,hC⟩:∃C,r.c=C:=⟨_,rfl⟩
  rw[hC] at H1 HRS HQ2⊢
  clear h1 hrs hC
  go_wp2_with fail
  go_ret
  exact ⟨⟨_,rfl, .inr (by rw[HQ2.out];exact ⟨H1.out,te,xe,rfl,HRS.out⟩)⟩,HF1.out,by rw[HQ2.out];exact HS1.out⟩
end Go.Proofs.YtdjddneidbddpaaGreatDoor
