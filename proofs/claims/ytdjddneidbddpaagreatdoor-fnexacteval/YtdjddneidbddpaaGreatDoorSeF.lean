import Derived.Test.YtdjddneidbddpaaGreatDoorSMin
import Derived.Test.YtdjddneidbddpaaGreatDoorLowN
import Derived.Test.YtdjddneidbddpaaGreatDoorEqS2
import Derived.Laws.Concat
namespace Go.Proofs.YtdjddneidbddpaaGreatDoor
set_option linter.unusedSectionVars false
set_option maxHeartbeats 12800000
open Go.RowKit
set_option linter.unusedSimpArgs false
set_option linter.unusedVariables false
theorem TreeAt.full {B:Nat} {w:World}:∀{f:Nat} {t:VT} {v:Value},TreeAt B w f t v→Gi f t:=by
 intro f
 induction f with
 |zero=>intro t v h;exact h.elim
 | succ f ih =>
  intro t v h
  obtain ⟨kind,n,s,keys,kids⟩:=t
  have hit:∀it,Ji B w it kids.length (fun j u=>TreeAt B w f (Yl kids j) u)→∀j,j<kids.length→Gi f (Yl kids j):=by
   rintro it ⟨_,a,cap,e,hx⟩ j hj
   obtain ⟨b,ea,h2,h3⟩:=hx (by omega)
   obtain ⟨t,x,_,hv⟩:=h3 j hj
   exact ih hv
  rcases h with ⟨_,_,_,_,hk,_⟩|⟨_,_,_,hk,_⟩|⟨_,_,_,hk,_⟩|⟨_,_,_,hk,_⟩|⟨_,_,_,_,it,_,hi⟩|⟨_,_,_,ks,it,_,_,hi⟩
  ·subst hk;exact fun j hj=>absurd hj (by simp)
  ·subst hk;exact fun j hj=>absurd hj (by simp)
  ·subst hk;exact fun j hj=>absurd hj (by simp)
  ·subst hk;exact fun j hj=>absurd hj (by simp)
  ·exact hit it hi
  ·exact hit it hi
theorem TreeAt.less {B:Nat} {w:World}:∀{g f:Nat} {t:VT} {v:Value},Gi g t→TreeAt B w f t v→TreeAt B w g t v:=by
 intro g
 induction g with
 |zero=>intro f t v hf _;exact hf.elim
 | succ g ih =>
  intro f t v hf h
  cases f with
  |zero=>exact h.elim
  | succ f =>
   obtain ⟨kind,n,s,keys,kids⟩:=t
   have hit:∀it,Ji B w it kids.length (fun j u=>TreeAt B w f (Yl kids j) u)→Ji B w it kids.length (fun j u=>TreeAt B w g (Yl kids j) u):=by
    rintro it ⟨h0,a,cap,e,hx⟩
    refine ⟨h0,a,cap,e,fun hn=> ?_⟩
    obtain ⟨b,ea,h2,h3⟩:=hx hn
    refine ⟨b,ea,h2,fun j hj=> ?_⟩
    obtain ⟨t,x,hc,hv⟩:=h3 j hj
    exact ⟨t,x,hc,ih (hf j hj) hv⟩
   rcases h with h|h|h|h|⟨h1,h2,h3,h4,it,e,hi⟩|⟨h1,h2,h3,ks,it,e,hs,hi⟩
   ·exact Or.inl h
   ·exact Or.inr (Or.inl h)
   ·exact Or.inr (Or.inr (Or.inl h))
   ·exact Or.inr (Or.inr (Or.inr (Or.inl h)))
   ·exact Or.inr (Or.inr (Or.inr (Or.inr (Or.inl ⟨h1,h2,h3,h4,it,e,hit it hi⟩))))
   ·exact Or.inr (Or.inr (Or.inr (Or.inr (Or.inr ⟨h1,h2,h3,ks,it,e,hs,hit it hi⟩))))
structure Reads2 (w w':World):Prop where
 size:w.heap.size≤w'.heap.size
 ifc:∀b o t x,w.cell? ⟨b,o,none⟩=some (.iface t x)→w'.cell? ⟨b,o,none⟩=some (.iface t x)
 str:∀b o s,w.cell? ⟨b,o,none⟩=some (.string s)→w'.cell? ⟨b,o,none⟩=some (.string s)
theorem StrsAt.reads {B B':Nat} {w w':World} {v:Value} {l:List ByteArray} (hr:Reads2 w w') (hB:B≤B') (h:StrsAt B w v l):StrsAt B' w' v l:=by
 obtain ⟨h1,h2,a,cap,e,h3⟩:=h
 refine ⟨h1,h2,a,cap,e,fun hp=> ?_⟩
 obtain ⟨b,o,ea,hb,hc⟩:=h3 hp
 exact ⟨b,o,ea,by omega,fun i hi=>hr.str _ _ _ (hc i hi)⟩
theorem TreeAt.reads {B B':Nat} {w w':World} (hr:Reads2 w w') (hB:B≤B'):∀{f:Nat} {t:VT} {v:Value},TreeAt B w f t v→TreeAt B' w' f t v:=by
 intro f
 induction f with
 |zero=>intro t v h;exact h.elim
 | succ f ih =>
  intro t v h
  obtain ⟨kind,n,s,keys,kids⟩:=t
  have hit:∀it,Ji B w it kids.length (fun j u=>TreeAt B w f (Yl kids j) u)→Ji B' w' it kids.length (fun j u=>TreeAt B' w' f (Yl kids j) u):=by
   rintro it ⟨h0,a,cap,e,hx⟩
   refine ⟨h0,a,cap,e,fun hn=> ?_⟩
   obtain ⟨b,ea,h2,h3⟩:=hx hn
   refine ⟨b,ea,by omega,fun j hj=> ?_⟩
   obtain ⟨t,x,hc,hv⟩:=h3 j hj
   exact ⟨t,x,hr.ifc _ _ _ _ hc,ih hv⟩
  rcases h with h|h|h|h|⟨h1,h2,h3,h4,it,e,hi⟩|⟨h1,h2,h3,ks,it,e,hs,hi⟩
  ·exact Or.inl h
  ·exact Or.inr (Or.inl h)
  ·exact Or.inr (Or.inr (Or.inl h))
  ·exact Or.inr (Or.inr (Or.inr (Or.inl h)))
  ·exact Or.inr (Or.inr (Or.inr (Or.inr (Or.inl ⟨h1,h2,h3,h4,it,e,hit it hi⟩))))
  ·exact Or.inr (Or.inr (Or.inr (Or.inr (Or.inr ⟨h1,h2,h3,ks,it,e,hs.reads hr hB,hit it hi⟩))))
def Rep (w:World) (ns:List VN) (x:Value):Prop:=okB ns=true∧TreeAt w.heap.size w 80 (Xal ns) x
theorem Rep.reads {w w':World} {ns:List VN} {x:Value} (h:Rep w ns x) (hr:Reads2 w w'):Rep w' ns x:=⟨h.1,h.2.reads hr hr.size⟩
theorem Rep.iface {w:World} {ns:List VN} {x:Value} (h:Rep w ns x):∃t y,x= .iface t y:=h.2.iface
theorem Xhv {ns:List VN} (h:okB ns=true):Yi 80 (Xal ns) 0=ns:=by
 rw[Xpp h 0]
 have:ns.map (Yb ((0:Nat):Int))=ns.map id:=List.map_congr_left fun x _=>Xg1 x
 rw[this,List.map_id]
theorem Xli {ns:List VN} (h:okB ns=true):Gi 80 (Xal ns):=by
 have p:=(Xp h).1
 exact (V7 h 80 (ns.length-1) (by omega) (by omega)).full
theorem Xlj {ns:List VN} (h:okB ns=true) {f:Nat} {t:VT} (hf:Gi f t) (hl:Yi f t 0=ns):t=Xal ns:=by
 have h1:=Xfr hf ns 0 (f+80) (by omega) (fun j hj=>by rw[Nat.zero_add,hl])
 have h2:=Xfr (Xli h) ns 0 (f+80) (by omega) (fun j hj=>by rw[Nat.zero_add,Xhv h])
 rw[hl] at h1
 rw[Xhv h] at h2
 exact h1.symm.trans h2
theorem Rep.of {w:World} {ns:List VN} {x:Value} {f:Nat} {t:VT} (ht:TreeAt w.heap.size w f t x) (hl:Yi f t 0=ns) (ok:okB ns=true):Rep w ns x:=by
 have e:=Xlj ok ht.full hl
 subst e
 exact ⟨ok,ht.less (Xli ok)⟩
theorem Xsy (ns:List VN):Xal ns= .mk (Xd ns).kind (Xd ns).n (Xd ns).s (Xd ns).keys ((Xe ns).map fun k=>Xw ns 79 k.toNat):=rfl
theorem X3b (ns:List VN) {j:Nat} (h:j<(Xe ns).length):Yl ((Xe ns).map fun k=>Xw ns 79 k.toNat) j=Xw ns 79 (Xm (Xe ns) j).toNat:=Ud h
theorem X4r {ns:List VN} (ok:okB ns=true) {j:Nat} (h:j<(Xe ns).length):Yi 79 (Xw ns 79 (Xm (Xe ns) j).toNat) 0=PL ns j:=by
 obtain ⟨q,hq,hql⟩:=Zj ok h
 have p:=(Xp ok).1
 unfold PL
 rw[hq,Int.toNat_natCast]
 exact (Uc ok (by omega) (by omega)).1

abbrev Xy:Xt→Int×Xt:=fun st=>(0,st)
theorem Now.many {R:Int×Xt} {k:Xt→Int×Xt} {c:Int} {fu:Nat} {out:List (List VN)} (h:Now R k c fu out):Y6 c out.length=c:=by
 by_cases e:c=0
 ·exact W8 (h.1 e).2
 ·exact Xbt e
theorem Wz {R:Int×Xt} {c0:Int} {l m out:List (List VN)} {fu:Nat} (hl:out.length≤40) (hm:c0=0→m=l) (h:R=if c0=0 then Xo Xk l (fu,out) else (c0,(fu,out))):Now R Xy (Y6 c0 (out.length+m.length)) fu (out++m):=
 Up hl hm (by rw[Xa1];exact h)
theorem Xpa {R:Int×Xt} {c:Int} {fu:Nat} {out out':List (List VN)} {k:Xt→Int×Xt} (hc:c≠0) (h:R=(c,(fu,out))):Now R k c fu out':=⟨fun e=>absurd e hc,fun _=>by rw[h];exact ⟨rfl,rfl⟩⟩
theorem Ko {R:Int×Xt} {r:Int×List VN} {fu:Nat} (h:Xv r Xk (fu,[])=R):Now R Xy r.1 fu (Y0 r):=by
 have h1:=Uq (R:=R) (k:=Xy) (r:=r) (out:= []) (fu:=fu) (by simp) (by rw[Xa1,h])
 have h2:=Vm r
 rw[W8 (by simpa using by omega)] at h1
 simpa using h1
theorem Xcc {oc:OcM} {x:FN} {v:List VN} {h:Yc} {st:Xt} (hk:x.kind=1∨x.kind=2∨x.kind=3∨x.kind=5∨x.kind=11∨x.kind=12∨x.kind=13):evM oc x v h st=Xv (Yf x v) h st:=by
 unfold evM
 rw[if_neg (by omega),if_neg (by omega),if_neg (by omega),if_neg (by omega),if_neg (by omega),if_neg (by omega),if_neg (by omega),if_neg (by omega),if_neg (by omega),if_neg (by omega),if_neg (by omega)]
theorem Xpb {oc:OcM} {x:FN} {v:List VN} {h:Yc} {st:Xt} (hk:x.kind=14):evM oc x v h st=(0,st):=by unfold evM;rw[if_pos hk]
theorem Xs3 {oc:OcM} {x:FN} {v:List VN} {h:Yc} {st:Xt} (hk:x.kind=4):evM oc x v h st=if (Xd v).kind=5∨(Xd v).kind=6 then Xo h (Ys v) st else (2,st):=by unfold evM;rw[if_neg (by omega),if_pos hk]
theorem Xs4 {oc:OcM} {x:FN} {v:List VN} {h:Yc} {st:Xt} (hk:x.kind=6):evM oc x v h st=Xq oc (Xi x 0) v (fun y=>Xq oc (Xi x 1) y h) st:=by unfold evM;rw[if_neg (by omega),if_neg (by omega),if_pos hk]
theorem Xpc {oc:OcM} {x:FN} {v:List VN} {h:Yc} {st:Xt} (hk:x.kind=7):evM oc x v h st=Gv oc x v h st:=by unfold evM;rw[if_neg (by omega),if_neg (by omega),if_neg (by omega),if_pos hk]
theorem Xgp {oc:OcM} {x:FN} {v:List VN} {h:Yc} {st:Xt} (hk:x.kind=8):evM oc x v h st=Kk oc x v h st:=by unfold evM;rw[if_neg (by omega),if_neg (by omega),if_neg (by omega),if_neg (by omega),if_pos hk]
theorem Xxu {oc:OcM} {x:FN} {v:List VN} {h:Yc} {st:Xt} (hk:x.kind=9):evM oc x v h st=Z6 oc x.names v h x.kids [] st:=by unfold evM;rw[if_neg (by omega),if_neg (by omega),if_neg (by omega),if_neg (by omega),if_neg (by omega),if_pos hk]
theorem Xlp {oc:OcM} {x:FN} {v:List VN} {h:Yc} {st:Xt} (hk:x.kind=10):evM oc x v h st=Xq oc (Xi x 0) v (fun y st=>if Xx y=true then h v st else (0,st)) st:=by unfold evM;rw[if_neg (by omega),if_neg (by omega),if_neg (by omega),if_neg (by omega),if_neg (by omega),if_neg (by omega),if_pos hk]
theorem Xxv {oc:OcM} {x:FN} {v:List VN} {h:Yc} {st:Xt} (h1:15≤x.kind) (h2:x.kind≤20):evM oc x v h st=Xq oc (Xi x 0) v (fun a=>Xq oc (Xi x 1) v (fun b=>Xv (Xs x.kind a b) h)) st:=by
 unfold evM
 rw[if_neg (by omega),if_neg (by omega),if_neg (by omega),if_neg (by omega),if_neg (by omega),if_neg (by omega),if_neg (by omega),if_pos ⟨h1,h2⟩]
theorem Xxw {oc:OcM} {x:FN} {v:List VN} {h:Yc} {st:Xt} (hk:x.kind=21):evM oc x v h st=Gt oc (Xi x 1) v h (Zq (oc (Xi x 0).toNat v st.1)) st.2:=by
 unfold evM
 rw[if_neg (by omega),if_neg (by omega),if_neg (by omega),if_neg (by omega),if_neg (by omega),if_neg (by omega),if_neg (by omega),if_neg (by omega),if_pos hk]
theorem X2k {oc:OcM} {x:FN} {v:List VN} {h:Yc} {st:Xt} (hk:x.kind=22):evM oc x v h st=Xq oc (Xi x 0) v (fun y=>if Xx y=true then Xq oc (Xi x 1) v h else Xq oc (Xi x 2) v h) st:=by
 unfold evM
 rw[if_neg (by omega),if_neg (by omega),if_neg (by omega),if_neg (by omega),if_neg (by omega),if_neg (by omega),if_neg (by omega),if_neg (by omega),if_neg (by omega),if_pos hk]
theorem Xxx {oc:OcM} {x:FN} {v:List VN} {h:Yc} {st:Xt} (hk:x.kind=23):evM oc x v h st=Xa7 h (Zq (oc (Xi x 0).toNat v st.1)) st.2:=by
 unfold evM
 rw[if_neg (by omega),if_neg (by omega),if_neg (by omega),if_neg (by omega),if_neg (by omega),if_neg (by omega),if_neg (by omega),if_neg (by omega),if_neg (by omega),if_neg (by omega),if_pos hk]
theorem Kp {oc:OcM} {n:Int} {v:List VN} {h:Yc} {fu:Nat} {r:OcR} {m:List (List VN)} {R:Int×Xt} (hr:oc n.toNat v fu=r) (hm:r.c=0→m=r.l) (hR:Xq oc n v h (fu,[])=R):Now R (fun st=>Yd (Xo h (m.drop 0) st) Xy) r.c r.fu []:=
 Us hr hm (by simp) (by rw[Xa1,hR])
theorem Xxy {oc:OcM} {x:FN} {v:List VN} {fu:Nat} {r:OcR} {m:List (List VN)} {R:Int×Xt} (hr:oc (Xi x 0).toNat v fu=r) (hm:r.c=0→m=r.l) (hf:r.c=0→r.l.length≤40) (hR:Gv oc x v Xk (fu,[])=R):Now R (Xq oc (Xi x 1) v Xk) r.c r.fu m:=by
 have h1:R=Yd (if r.c=0 then Xo Xk r.l (r.fu,[]) else (r.c,(r.fu,[]))) (Xq oc (Xi x 1) v Xk):=by
  rw[←hR]
  unfold Gv
  rw[Ur hr]
  rfl
 have h2:=Up (m:=m) (by simp) hm h1
 by_cases e:r.c=0
 ·rw[W8 (by rw[hm e];simpa using hf e)] at h2
  simpa using h2
 ·rw[Xbt e] at h2
  exact h2.dead e _ _
theorem Xxz {oc:OcM} {x:FN} {v:List VN} {c:Int} {fu:Nat} {out:List (List VN)} {r:OcR} {m:List (List VN)} {R:Int×Xt} (h:Now R (Xq oc (Xi x 1) v Xk) c fu out) (hc:c=0) (hr:oc (Xi x 1).toNat v fu=r) (hm:r.c=0→m=r.l):Now R Xy (Y6 r.c (out++m).length) r.fu (out++m):=by
 obtain ⟨h1,h2⟩:=h.1 hc
 rw[List.length_append]
 exact Wz h2 hm (by rw[←h1,Ur hr])
theorem Xx0 {oc:OcM} {x:FN} {v:List VN} {fu:Nat} {R:Int×Xt} (hx:x.kids.length=0) (hR:Kk oc x v Xk (fu,[])=R):Now R Xy (Yu (Zp [])).1 fu (Y0 (Yu (Zp []))):=by
 refine Ko ?_
 rw[←hR]
 unfold Kk
 rw[if_pos hx]
 unfold Xv Yu
 rw[if_pos Xbb,if_pos rfl]
theorem Xx1 {oc:OcM} {x:FN} {v:List VN} {fu:Nat} {R:Int×Xt} {r:OcR} (hx:x.kids.length≠0) (hr:oc (Xi x 0).toNat v fu=r) (hR:Kk oc x v Xk (fu,[])=R) (hc:r.c≠0):R=(r.c,(r.fu,[])):=by
 rw[←hR]
 unfold Kk
 rw[if_neg hx]
 show (if (oc (Xi x 0).toNat v fu).c=0 then _ else _)=_
 rw[hr,if_neg hc]
theorem Xx2 {oc:OcM} {x:FN} {v:List VN} {fu:Nat} {R:Int×Xt} {r:OcR} (hx:x.kids.length≠0) (hr:oc (Xi x 0).toNat v fu=r) (hR:Kk oc x v Xk (fu,[])=R) (hc:r.c=0):Now R Xy (Yu (Zp r.l)).1 r.fu (Y0 (Yu (Zp r.l))):=by
 refine Ko ?_
 rw[←hR]
 unfold Kk
 rw[if_neg hx]
 show _=(if (oc (Xi x 0).toNat v fu).c=0 then _ else _)
 rw[hr,if_pos hc]
theorem Xu2 {oc:OcM} {n:Int} {v:List VN} {fu:Nat} {r:OcR} {m:List (List VN)} {R:Int×Xt} (hr:oc n.toNat v fu=r) (hm:r.c=0→m=r.l) (hR:Xq oc n v (fun y st=>if Xx y=true then Xk v st else (0,st)) (fu,[])=R):Now R Xy (Y6 r.c ((m.filter Xx).map fun _=>v).length) r.fu ((m.filter Xx).map fun _=>v):=by
 have h1:R=if r.c=0 then Xo Xk ((r.l.filter Xx).map fun _=>v) (r.fu,[]) else (r.c,(r.fu,[])):=by
  rw[←hR,Xpw hr]
  by_cases e:r.c=0
  ·rw[if_pos e,if_pos e,Xvo]
  ·rw[if_neg e,if_neg e]
 have h2:=Wz (m:=(m.filter Xx).map fun _=>v) (by simp) (fun e=>by rw[hm e]) h1
 simpa using h2
theorem X3n {v:List VN} {r:OcR} {m:List (List VN)} {R:Int×Xt} (hm:r.c=0→m=r.l) (hR:Xa7 Xk r []=R):Now R Xy (Y6 r.c m.length) r.fu m:=by
 have h1:R=if r.c=0 then Xo Xk r.l (r.fu,[]) else (r.c,(r.fu,[])):=by rw[←hR];rfl
 have h2:=Wz (m:=m) (by simp) hm h1
 simpa using h2
theorem X1i {oc:OcM} {n:Int} {v:List VN} {r:OcR} {m:List (List VN)} {R:Int×Xt} (hm:r.c=0→m=r.l) (hR:Gt oc n v Xk r []=R) (ht:(m.filter Xx).length≠0):Now R Xy (Y6 r.c (m.filter Xx).length) r.fu (m.filter Xx):=by
 have h1:R=if r.c=0 then Xo Xk (r.l.filter Xx) (r.fu,[]) else (r.c,(r.fu,[])):=by
  rw[←hR]
  unfold Gt
  by_cases e:r.c=0
  ·rw[if_pos e,if_pos e,if_pos (by rw[Xje,←hm e];simp[ht]),Xys]
  ·rw[if_neg e,if_neg e]
 have h2:=Wz (m:=m.filter Xx) (by simp) (fun e=>by rw[hm e]) h1
 simpa using h2
theorem Xx3 {oc:OcM} {n:Int} {v:List VN} {r:OcR} {m:List (List VN)} {R:Int×Xt} (hm:r.c=0→m=r.l) (hR:Gt oc n v Xk r []=R) (ht:(m.filter Xx).length=0):Now R (Xq oc n v Xk) r.c r.fu []:=by
 rw[←hR]
 unfold Gt
 by_cases e:r.c=0
 ·rw[if_pos e,if_neg (by rw[Xje,←hm e];simp[ht])]
  exact ⟨fun _=>⟨rfl,by simp⟩,fun h=>absurd e h⟩
 ·rw[if_neg e]
  exact ⟨fun h=>absurd h e,fun _=>⟨rfl,rfl⟩⟩
theorem X1j {oc:OcM} {n:Int} {v:List VN} {c:Int} {fu:Nat} {r:OcR} {m:List (List VN)} {R:Int×Xt} (h:Now R (Xq oc n v Xk) c fu []) (hc:c=0) (hr:oc n.toNat v fu=r) (hm:r.c=0→m=r.l):Now R Xy (Y6 r.c m.length) r.fu m:=by
 obtain ⟨h1,_⟩:=h.1 hc
 have h2:=Wz (R:=R) (m:=m) (out:= []) (by simp) hm (by rw[←h1,Ur hr])
 simpa using h2

theorem X3q (s:ByteArray) (w:World):Calls Tryz.prog 100 #[.string s] w fun e w'=>∃r KV IV,e= .returned r∧Nest w.heap.size w' r (Xu 4 0 s) KV IV∧Below w.heap.size w w':=by
 go_enter Tryz.func100,Tryz.ntmps100
 go_wp2_with fail
 go_ret
 exact ⟨_,_,_,rfl,Vy w 4 0 _,(Below.refl _ _).alloc (Nat.le_refl _) _⟩
theorem Xkp (B:Nat) (v:Value) (vs:List VN) (w:World) (h:NodesAt B w v vs) (ok:okB vs=true) (hB:B≤w.heap.size):
  Calls Tryz.prog 36 #[v] w fun e w'=>∃r KV IV,e= .returned r∧Nest w.heap.size w' r vs KV IV∧Below w.heap.size w w':=by
 have H:=Xa h
 obtain ⟨_,a,cap,rfl,_⟩:=h
 have hl:=(Xp ok).1
 have HNR:=Xa (Xdl (L:=fun _=>vs) (m:=1) (fun i hi=>ok) 0 (by omega)).2
 go_enter Tryz.func36,Tryz.ntmps36
 go_wp2_with fail
 refine (Xlr w.heap.size w.heap.size (.slice none 0 0) _ [] vs (fun _=>undef) (fun _=>undef) w (Nest.nil _ _ _ _) (NodesAt.wide H.out hB) (Nat.le_refl _) (Nat.le_refl _) (by simp;omega) HNR.out).mono ?_
 rintro e w2 ⟨r,KV,IV,rfl,hl2⟩
 have hb:Below w.heap.size w w2:=(Below.refl _ _).grown hl2.2.1 (Nat.le_refl _) (fun k hk=>by simp[Value.ownBlock] at hk)
 have hn:=hl2.1
 have e0:vs.map (Yb (([]:List VN).length:Int))=vs:=by
  have:∀x:VN,Yb (([]:List VN).length:Int) x=x:=fun x=>Xg3 x
  rw[List.map_congr_left (fun x _=>this x)];simp
 rw[List.nil_append,e0] at hn
 have HN:=Xa hn
 have HB:=Xa hb
 obtain ⟨ar,cr,er⟩:=Xj hn.row
 obtain ⟨M,hM⟩:∃M,vs.length=M:=⟨_,rfl⟩
 rw[hM] at er
 subst er
 clear hl2 hn hb hM
 go_wp2_with fail
 go_ret
 exact ⟨_,KV,IV,rfl,HN.out,HB.out⟩
theorem Xs5 {us:List VN} (hok:okB us=true) (hk:(Xd us).kind=4):(Xd us).s.size≤60:=by
 rcases J3 hok with k|k|⟨k,a,b⟩|⟨k,a⟩|⟨k,a⟩|⟨k,a⟩
 ·omega
 ·omega
 ·omega
 ·exact a
 ·omega
 ·omega
theorem Xye (s:ByteArray) (h:s.size≤140737488355328):∀i,i<(Xu 4 0 s).length→Fits (Xb (Xu 4 0 s) i):=by
 intro i hi
 obtain rfl:i=0:=by simp[Xu] at hi;omega
 refine ⟨by simp[Xu,Xb],fun i hi=>absurd hi (by simp[Xu,Xb]),by simp[Xu,Xb],fun i hi=>absurd hi (by simp[Xu,Xb]),by simpa [Xu,Xb] using h,by simp[Xu,Xb],by simp[Xu,Xb],by simp[Xu,Xb],by simp[Xu,Xb]⟩
set_option maxRecDepth 100000 in
theorem Xr4 (B:Nat) (v1 v2:Value) (us vs:List VN) (w:World) (hn1:NodesAt B w v1 us) (hn2:NodesAt B w v2 vs) (hB:B≤w.heap.size) (ok1:okB us=true) (ok2:okB vs=true) (hno:(Xd us).kind≠(Xd vs).kind∨((Xd us).kind≠5∧(Xd us).kind≠6)):
  Calls Tryz.prog 131 #[v1,v2] w fun e w'=>∃r base KV IV,e= .returned (.tuple #[r, .int .i64 (Qn us vs)])∧w.heap.size≤base∧Nest base w' r (Zu us vs) KV IV∧Below w.heap.size w w':=by
 obtain ⟨p1a,p1b⟩:=(Xp ok1).1
 obtain ⟨p2a,p2b⟩:=(Xp ok2).1
 obtain ⟨b1,o1,c1,aK1,nK1,cK1,aI1,nI1,cI1,rfl,hb1,u1,u2,d0,d1,d2,d3,d4⟩:=Jf hn1 (by omega)
 clear u1 u2
 obtain ⟨b2,o2,c2,aK2,nK2,cK2,aI2,nI2,cI2,rfl,hb2,u1,u2,g0,g1,g2,g3,g4⟩:=Jf hn2 (by omega)
 clear u1 u2
 have H1:=Xa (fun a=>Xjq ok1 ok2 a)
 have H2:=Xa (fun a b=>Xjr ok1 ok2 a b)
 have H3:=Xa (fun a b c=>Xc5 ok1 ok2 a b c)
 have H4:=Xa (fun a b c=>Uf ok1 ok2 a b c)
 have H5:=Xa (fun a=>Xtl (us:=us) (vs:=vs) a)
 have H6:=Xa (fun a=>Xqm (us:=us) (vs:=vs) a)
 have HRN1:=Xa (fun a=>Xaw ok1 a)
 have HRN2:=Xa (fun a=>Xaw ok2 a)
 have HRS1:=Xa (fun a=>Xs5 ok1 a)
 have HRS2:=Xa (fun a=>Xs5 ok2 a)
 have HC1:=Xa (fun W (hb:Below w.heap.size w W)=>Xkp B _ us W (hn1.below (hb.mono hB)) ok1 (Nat.le_trans hB hb.size))
 have HC2:=Xa (fun W (hb:Below w.heap.size w W)=>Xkp B _ vs W (hn2.below (hb.mono hB)) ok2 (Nat.le_trans hB hb.size))
 have HSN:Hid (Xjo us vs=Xu 3 ((Xd us).n+(Xd vs).n) ByteArray.empty):=rfl
 have HTN:Hid (Xjp us vs=Xu 4 0 ((Xd us).s++(Xd vs).s)):=rfl
 have HRT:=Xa (J3 ok1)
 obtain ⟨N1,hN1⟩:∃N1,us.length=N1:=⟨_,rfl⟩
 obtain ⟨N2,hN2⟩:∃N2,vs.length=N2:=⟨_,rfl⟩
 rw[hN1] at p1a p1b d0 d1 d2 d3 d4 HC1⊢
 rw[hN2] at p2a p2b g0 g1 g2 g3 g4 HC2⊢
 have HL1:=Xa hN1
 have HL2:=Xa hN2
 have z1:((N1:Int)-1).toNat=N1-1:=by omega
 have z2:((N2:Int)-1).toNat=N2-1:=by omega
 obtain ⟨kx,hkx⟩:∃k,(Xd us).kind=k:=⟨_,rfl⟩
 obtain ⟨ky,hky⟩:∃k,(Xd vs).kind=k:=⟨_,rfl⟩
 obtain ⟨nx,hnx⟩:∃k,(Xd us).n=k:=⟨_,rfl⟩
 obtain ⟨ny,hny⟩:∃k,(Xd vs).n=k:=⟨_,rfl⟩
 obtain ⟨sx,hsx⟩:∃k,(Xd us).s=k:=⟨_,rfl⟩
 obtain ⟨sy,hsy⟩:∃k,(Xd vs).s=k:=⟨_,rfl⟩
 have HKX:=Xa hkx
 have HKY:=Xa hky
 rw[hkx] at d0 H1 H2 H3 H4 H5 H6 HRN1 HRS1 hno
 rw[hky] at g0 H2 H3 H4 HRN2 HRS2 hno
 rw[hnx] at d1 HSN HRN1
 rw[hny] at g1 HSN HRN2
 rw[hsx] at d2 HTN HRS1
 rw[hsy] at g2 HTN HRS2
 have HKQ:Hid (kx=1∨kx=2∨kx=3∨kx=4∨kx=5∨kx=6):=by
  rw[Hid,←hkx]
  rcases HRT.out with k|k|⟨k,_,_⟩|⟨k,_⟩|⟨k,_⟩|⟨k,_⟩<;>omega
 have HBA:Hid (Below w.heap.size w ((w.alloc (.cells #[.int .i64 kx, .int .i64 nx, .string sx, .slice aK1 nK1 cK1, .slice aI1 nI1 cI1] 75)).alloc (.cells #[.int .i64 ky, .int .i64 ny, .string sy, .slice aK2 nK2 cK2, .slice aI2 nI2 cI2] 75))):=((Below.refl _ _).alloc (Nat.le_refl _) _).alloc (by simp) _
 clear hn1 hn2 hN1 hN2 hkx hky hnx hny hsx hsy ok1 ok2 HRT
 have hbx:Below w.heap.size w (w.alloc (.cells #[.int .i64 kx, .int .i64 nx, .string sx, .slice aK1 nK1 cK1, .slice aI1 nI1 cI1] 75)):=(Below.refl _ _).alloc (Nat.le_refl _) _
 have e0:=(Xc hbx (show b2<w.heap.size by omega)).trans g0
 have e1:=(Xc hbx (show b2<w.heap.size by omega)).trans g1
 have e2:=(Xc hbx (show b2<w.heap.size by omega)).trans g2
 have e3:=(Xc hbx (show b2<w.heap.size by omega)).trans g3
 have e4:=(Xc hbx (show b2<w.heap.size by omega)).trans g4
 clear hbx g0 g1 g2 g3 g4
 by_cases k1:kx=1
 ·have HM:=Xa (H1.out k1)
  have q1:(kx==1)=true:=by simpa using k1
  clear k1 hno
  go_enter Tryz.func131,Tryz.ntmps131
  go_wp2_with fail
  refine (HC2.out _ HBA.out).mono ?_
  rintro e w3 ⟨r,KV,IV,rfl,hn,hb⟩
  have HB3:=Xa (HBA.out.trans (hb.mono HBA.out.size))
  have HN3:=Xa (hn.low HBA.out.size)
  obtain ⟨ar,cr,er⟩:=Xj hn.row
  rw[HL2.out] at er
  subst er
  clear hn hb
  go_wp2_with fail
  go_ret2
  exact ⟨_,w.heap.size,KV,IV,by rw[HM.out.1];rfl,Nat.le_refl _,by rw[HM.out.2];exact HN3.out,HB3.out⟩
 have q1:(kx==1)=false:=by simpa using k1
 by_cases k2:ky=1
 ·have HM:=Xa (H2.out k1 k2)
  have q2:(ky==1)=true:=by simpa using k2
  clear k1 k2 hno
  go_enter Tryz.func131,Tryz.ntmps131
  go_wp2_with fail
  refine (HC1.out _ HBA.out).mono ?_
  rintro e w3 ⟨r,KV,IV,rfl,hn,hb⟩
  have HB3:=Xa (HBA.out.trans (hb.mono HBA.out.size))
  have HN3:=Xa (hn.low HBA.out.size)
  obtain ⟨ar,cr,er⟩:=Xj hn.row
  rw[HL1.out] at er
  subst er
  clear hn hb
  go_wp2_with fail
  go_ret2
  exact ⟨_,w.heap.size,KV,IV,by rw[HM.out.1];rfl,Nat.le_refl _,by rw[HM.out.2];exact HN3.out,HB3.out⟩
 have q2:(ky==1)=false:=by simpa using k2
 by_cases k:kx=ky
 case neg=>
  have HM:=Xa (H3.out k1 k2 (fun h=>k h.1))
  have q3:(kx !=ky)=true:=by simpa using k
  clear k1 k2 k hno
  go_enter Tryz.func131,Tryz.ntmps131
  go_wp2_with fail
  go_ret2
  exact ⟨_,w.heap.size,fun _=>undef,fun _=>undef,by rw[HM.out.1];rfl,Nat.le_refl _,by rw[HM.out.2];exact Nest.nil _ _ _ _,HBA.out⟩
 case pos=>
 have q3:(kx !=ky)=false:=by simpa using k
 have h56:kx≠5∧kx≠6:=by rcases hno with h|h;exact absurd k h;exact h
 by_cases k3:kx=3
 ·have HM:=Xa (H4.out k1 k (by omega))
  rw[H5.out k3,HSN.out] at HM
  have q4:(kx==3)=true:=by simpa using k3
  obtain ⟨n1a,n1b⟩:=HRN1.out k3
  obtain ⟨n2a,n2b⟩:=HRN2.out (by omega)
  have HLF:=Xa (Xea (nx+ny) (by omega) (by omega)).2
  clear k1 k2 k k3 hno h56
  go_enter Tryz.func131,Tryz.ntmps131
  go_wp2_with fail
  refine (K3 (nx+ny) _).mono ?_
  rintro e w3 ⟨r,KV,IV,rfl,hn,hb⟩
  have HB3:=Xa (HBA.out.trans (hb.mono HBA.out.size))
  have HN3:=Xa (hn.low HBA.out.size)
  have HND:=Xa (hn.nodes (by simp[Xu]) HLF.out)
  obtain ⟨ar,cr,er⟩:=Xj hn.row
  simp only[Xu,List.length_cons,List.length_nil] at er
  subst er
  clear hn hb
  cases ok:okB (Xu 3 (nx+ny) ByteArray.empty)
  ·go_wp2_with fail
   refine (Gq w3.heap.size _ _ w3 HND.out (Nat.le_refl _) ok).mono ?_
   rintro e w4 ⟨rfl,hb4⟩
   have HB4:=Xa (HB3.out.trans (hb4.mono HB3.out.size))
   clear hb4
   go_wp2_with fail
   go_ret2
   exact ⟨_,w.heap.size,fun _=>undef,fun _=>undef,by rw[HM.out.1,ok];rfl,Nat.le_refl _,by rw[HM.out.2,ok];exact Nest.nil _ _ _ _,HB4.out⟩
  ·go_wp2_with fail
   refine (Vs w3.heap.size _ _ w3 HND.out (Nat.le_refl _) ok).mono ?_
   rintro e w4 ⟨rfl,hb4⟩
   have HB4:=Xa (HB3.out.trans (hb4.mono HB3.out.size))
   have HN4:=Xa (HN3.out.below hb4)
   clear hb4
   go_wp2_with fail
   go_ret2
   exact ⟨_,w.heap.size,KV,IV,by rw[HM.out.1,ok];rfl,Nat.le_refl _,by rw[HM.out.2,ok];exact HN4.out,HB4.out⟩
 have q4:(kx==3)=false:=by simpa using k3
 by_cases k4:kx=4
 ·have HM:=Xa (H4.out k1 k (by omega))
  rw[H6.out k4,HTN.out] at HM
  have q5:(kx==4)=true:=by simpa using k4
  have s1:=HRS1.out k4
  have s2:=HRS2.out (by omega)
  have hcat:∀w,(Op.stringOp .add sx sy).run Tryz.prog w= .ok (.string (sx++sy)) w:=fun w=>run_string_add_sum w sx sy (by omega)
  have hsum:¬(sx.size+sy.size>9223372036854775807):=by omega
  have HLF:=Xa (Xye (sx++sy) (by rw[ByteArray.size_append];omega))
  clear k1 k2 k k3 k4 hno h56
  go_enter Tryz.func131,Tryz.ntmps131
  go_wp2_with fail
  refine (X3q (sx++sy) _).mono ?_
  rintro e w3 ⟨r,KV,IV,rfl,hn,hb⟩
  have HB3:=Xa (HBA.out.trans (hb.mono HBA.out.size))
  have HN3:=Xa (hn.low HBA.out.size)
  have HND:=Xa (hn.nodes (by simp[Xu]) HLF.out)
  obtain ⟨ar,cr,er⟩:=Xj hn.row
  simp only[Xu,List.length_cons,List.length_nil] at er
  subst er
  clear hn hb
  cases ok:okB (Xu 4 0 (sx++sy))
  ·go_wp2_with fail
   refine (Gq w3.heap.size _ _ w3 HND.out (Nat.le_refl _) ok).mono ?_
   rintro e w4 ⟨rfl,hb4⟩
   have HB4:=Xa (HB3.out.trans (hb4.mono HB3.out.size))
   clear hb4
   go_wp2_with fail
   go_ret2
   exact ⟨_,w.heap.size,fun _=>undef,fun _=>undef,by rw[HM.out.1,ok];rfl,Nat.le_refl _,by rw[HM.out.2,ok];exact Nest.nil _ _ _ _,HB4.out⟩
  ·go_wp2_with fail
   refine (Vs w3.heap.size _ _ w3 HND.out (Nat.le_refl _) ok).mono ?_
   rintro e w4 ⟨rfl,hb4⟩
   have HB4:=Xa (HB3.out.trans (hb4.mono HB3.out.size))
   have HN4:=Xa (HN3.out.below hb4)
   clear hb4
   go_wp2_with fail
   go_ret2
   exact ⟨_,w.heap.size,KV,IV,by rw[HM.out.1,ok];rfl,Nat.le_refl _,by rw[HM.out.2,ok];exact HN4.out,HB4.out⟩
 have q5:(kx==4)=false:=by simpa using k4
 ·have k7:kx=2:=by rcases HKQ.out with h|h|h|h|h|h<;>omega
  have HM:=Xa (H3.out k1 k2 (fun h=>h.2 k7))
  have q6:(kx==5)=false:=by simp;omega
  have q7:(kx==6)=false:=by simp;omega
  clear k1 k2 k k3 k4 k7 hno h56
  go_enter Tryz.func131,Tryz.ntmps131
  go_wp2_with fail
  go_ret2
  exact ⟨_,w.heap.size,fun _=>undef,fun _=>undef,by rw[HM.out.1];rfl,Nat.le_refl _,by rw[HM.out.2];exact Nest.nil _ _ _ _,HBA.out⟩

theorem X3z {us vs:List VN} (h1:okB us=true) (h2:okB vs=true) {i k:Nat} (hi:i<(Xe us).length) (hk:k<(Xe vs).length):okB (PL us i)=true∧okB (PL vs k)=true∧ord (PL us i) (PL vs k) (PL us i).length ((PL us i).length-1) ((PL vs k).length-1)=Yt (PL us i) (PL vs k):=by
 have a:=Ug (Zw h1).1 i hi
 have b:=Ug (Zw h2).1 k hk
 exact ⟨a,b,(Xan a b).symm⟩
set_option maxRecDepth 100000 in
theorem Xp8 (B : Nat) (v1 v2 : Value) (us vs : List VN) (w : World) (hn1 : NodesAt B w v1 us) (hn2 : NodesAt B w v2 vs) (hB : B ≤ w.heap.size) (ok1 : okB us = true) (ok2 : okB vs = true) (hk1 : (Xd us).kind = 5) (hk2 : (Xd vs).kind = 5) :
  Calls Tryz.prog 132 #[v1,v2] w fun e w'=>∃r base KV IV,e= .returned (.tuple #[r, .int .i64 (V6 us vs)])∧w.heap.size≤base∧Nest base w' r (Kn us vs) KV IV∧Below w.heap.size w w':=by
 have HV1:=Xa hn1
 have HV2:=Xa hn2
 have HM:=Xa (Xox ok1 ok2 ⟨hk1,hk2⟩)
 have HLF:=Xa (Xou ok1 hk1 vs hn1.fits)
 have HLO:=Xa (Xs1 ok1 vs)
 have HPF1:=Xa (Kz hn1.fits)
 have HPF2:=Xa (Kz hn2.fits)
 have HPN1:Hid (Zm us=(Xe us).length):=by unfold Hid Zm;rw[if_pos ok1]
 have HPN2:Hid (Zm vs=(Xe vs).length):=by unfold Hid Zm;rw[if_pos ok2]
 rw[HPN1.out] at HPF1
 rw[HPN2.out] at HPF2
 have HOK1:=Xa ok1
 have HOK2:=Xa ok2
 have HHO:Hid (∀i k,i<(Xe us).length→k<(Xe vs).length→okB (PL us i)=true∧okB (PL vs k)=true∧ord (PL us i) (PL vs k) (PL us i).length ((PL us i).length-1) ((PL vs k).length-1)=Yt (PL us i) (PL vs k)):=fun i k hi hk=>X3z ok1 ok2 hi hk
 have HLN:Hid (Vp us vs=Yn 5 [] (Wf us vs) (Ym us vs (Xe us).length).length):=rfl
 have HLX:=Xa (fun i=>V5 us vs i)
 have HLS:Hid (∀i,Ym us vs (i+1)=if Zf (Wy us vs i) (Xe vs).length=true then Ym us vs i else Ym us vs i++ [i]):=fun i=>rfl
 have HLL:Hid (Wf us vs=fun j=>PL us ((Ym us vs (Xe us).length).getD j 0)):=rfl
 obtain ⟨i0,hi0,hz0,hs0,hy0⟩:=info_parts Xh5
 obtain ⟨p1a,p1b⟩:=(Xp ok1).1
 obtain ⟨p2a,p2b⟩:=(Xp ok2).1
 obtain ⟨b1,o1,c1,aK1,nK1,cK1,aI1,nI1,cI1,e1,hb1,u1,u2,d0,d1,d2,d3,d4⟩:=Jf hn1 (by omega)
 clear u1 u2
 subst e1
 obtain ⟨b2,o2,c2,aK2,nK2,cK2,aI2,nI2,cI2,e1,hb2,u1,u2,g0,g1,g2,g3,g4⟩:=Jf hn2 (by omega)
 clear u1 u2
 subst e1
 obtain ⟨N1,hN1⟩:∃N1,us.length=N1:=⟨_,rfl⟩
 obtain ⟨N2,hN2⟩:∃N2,vs.length=N2:=⟨_,rfl⟩
 rw[hN1] at p1a p1b d0 d1 d2 d3 d4 HV1⊢
 rw[hN2] at p2a p2b g0 g1 g2 g3 g4 HV2⊢
 have z1:((N1:Int)-1).toNat=N1-1:=by omega
 have z2:((N2:Int)-1).toNat=N2-1:=by omega
 rw[hk1] at d0
 rw[hk2] at g0
 obtain ⟨nx,hnx⟩:∃k,(Xd us).n=k:=⟨_,rfl⟩
 obtain ⟨ny,hny⟩:∃k,(Xd vs).n=k:=⟨_,rfl⟩
 obtain ⟨sx,hsx⟩:∃k,(Xd us).s=k:=⟨_,rfl⟩
 obtain ⟨sy,hsy⟩:∃k,(Xd vs).s=k:=⟨_,rfl⟩
 rw[hnx] at d1
 rw[hny] at g1
 rw[hsx] at d2
 rw[hsy] at g2
 obtain ⟨WA,hWA⟩:∃WA,((w.alloc (.cells #[.int .i64 5, .int .i64 nx, .string sx, .slice aK1 nK1 cK1, .slice aI1 nI1 cI1] 75)).alloc (.cells #[.int .i64 5, .int .i64 ny, .string sy, .slice aK2 nK2 cK2, .slice aI2 nI2 cI2] 75))=WA:=⟨_,rfl⟩
 have HWA:=Xa hWA
 have HL0:Hid (WA.heap.size=w.heap.size+1+1):=by rw[Hid,←hWA];simp
 have HBA:Hid (Below w.heap.size w WA):=by rw[Hid,←hWA];exact ((Below.refl _ _).alloc (Nat.le_refl _) _).alloc (by simp) _
 have hbx:Below w.heap.size w (w.alloc (.cells #[.int .i64 5, .int .i64 nx, .string sx, .slice aK1 nK1 cK1, .slice aI1 nI1 cI1] 75)):=(Below.refl _ _).alloc (Nat.le_refl _) _
 have e0:=(Xc hbx (show b2<w.heap.size by omega)).trans g0
 have e1:=(Xc hbx (show b2<w.heap.size by omega)).trans g1
 have e2:=(Xc hbx (show b2<w.heap.size by omega)).trans g2
 have e3:=(Xc hbx (show b2<w.heap.size by omega)).trans g3
 have e4:=(Xc hbx (show b2<w.heap.size by omega)).trans g4
 clear hbx g0 g1 g2 g3 g4 hn1 hn2 hN1 hN2 hnx hny hsx hsy ok1 ok2 hk1 hk2 hWA
 go_enter Tryz.func132,Tryz.ntmps132
 go_wp2_with fail
 rw[HWA.out]
 clear d0 d1 d2 d3 d4 e0 e1 e2 e3 e4 HWA
 have hzA:=HBA.out.size
 obtain ⟨WB,hWB⟩:∃WB,WA.alloc (.cells #[] 25)=WB:=⟨_,rfl⟩
 have HRA:Hid (WB.ownsRow w.heap.size 25 1 (.slice (some ⟨WA.heap.size,0,none⟩) 0 0) 0 []):=by
  have:=World.ownsRow_lit (base:=w.heap.size) (e:=25) (size:=1) WA #[] 0 hzA (by simp[maxLen]) rfl
  rw[hWB] at this
  simpa [Hid] using this
 have HBB:Hid (Below w.heap.size w WB):=by rw[Hid,←hWB];exact HBA.out.alloc hzA _
 have hzB:WB.heap.size=WA.heap.size+1:=by rw[←hWB];simp
 rw[hWB]
 clear hWB
 refine (Ku B _ us WB (HV1.out.below (HBB.out.mono hB)) (Nat.le_trans hB HBB.out.size) HOK1.out).mono ?_
 rintro e w1 ⟨r1,rs1,K1,I1,lo1,rfl,hr1,hb1'⟩
 have HB1:=Xa (HBB.out.trans (hb1'.mono HBB.out.size))
 have HR1:=Xa hr1
 have HRA1:=Xa (Vj HRA.out ((From.refl w.heap.size WB).below hb1'))
 have zs1:=hb1'.size
 obtain ⟨M,hM⟩:∃M,(Xe us).length=M:=⟨_,rfl⟩
 obtain ⟨M',hM'⟩:∃M',(Xe vs).length=M':=⟨_,rfl⟩
 obtain ⟨aM,cM,eM⟩:=Xj hr1.row
 rw[hM] at eM HR1 HPF1 HHO HLN HLL
 rw[hM'] at HPF2 HHO HLS
 subst eM
 have HMM:=Xa hM
 have HMM':=Xa hM'
 clear hr1 hb1' hM hM'
 go_wp2_with fail
 refine (Ku B _ vs w1 (HV2.out.below (HB1.out.mono hB)) (Nat.le_trans hB HB1.out.size) HOK2.out).mono ?_
 rintro e WW ⟨r2,rs2,K2,I2,lo2,rfl,hr2,hb2'⟩
 rw[HMM'.out] at hr2
 have HBW:=Xa (HB1.out.trans (hb2'.mono HB1.out.size))
 have HR1W:=Xa (HR1.out.below hb2')
 have HR2W:=Xa hr2
 have HRW:=Xa (Vj HRA1.out ((From.refl w.heap.size w1).below hb2'))
 have zs2:=hb2'.size
 obtain ⟨aG0,cG0,eG0⟩:=Xj hr2.row
 subst eG0
 have hM80:M≤80:=HPF1.out.1
 have hM80':M'≤80:=HPF2.out.1
 clear hr2 hb2' HR1 HRA1 HRA
 go_wp2_with fail
 go_loopw [8,11,12,13] (fun o i _ _ wr=>∃(n:Nat),n≤M∧i= .int .i64 n∧wr.ownsRow w.heap.size 25 1 o (Ym us vs n).length ((Ym us vs n).map rs1)∧(∀g,o.ownBlock=some g→g=WA.heap.size∨WW.heap.size≤g)∧From (WA.heap.size+1) WW wr∧Below w.heap.size w wr) (fun _ i _ _ _=>M-(intOf i).toNat)
 case atStart=>exact ⟨0,Nat.zero_le _,rfl,by rw[←HL0.out];exact HRW.out,fun g hg=>by have:=HL0.out;simp[Value.ownBlock] at hg;omega,From.refl _ _,HBW.out⟩
 case round =>
  obtain ⟨i,hi,rfl,hrow,hown,hfr,hbl⟩:=hrel
  obtain ⟨W,rfl⟩:∃W,W=wr:=⟨_,rfl⟩
  have HROW:=Xa hrow
  have HOWN:=Xa hown
  have HFR:=Xa hfr
  have HBL:=Xa hbl
  have HRM:=Xa (HR1W.out.from (HFR.out.mono (by omega)))
  have HRG:=Xa (HR2W.out.from (HFR.out.mono (by omega)))
  have zW:=hbl.size
  have zWW:=hfr.1
  have HIX:=Xa (HLX.out i)
  have HLSi:=Xa (HLS.out i)
  obtain ⟨ps,hps⟩:∃ps,Ym us vs i=ps:=⟨_,rfl⟩
  have HPS:=Xa hps
  rw[hps] at HROW HIX HLSi
  obtain ⟨NP,hNP⟩:∃NP,ps.length=NP:=⟨_,rfl⟩
  have HNP:=Xa hNP
  obtain ⟨ao,co,eo⟩:=Xj HROW.out
  rw[hNP] at eo
  subst eo
  have hNPi:NP≤i:=by rw[←hNP];exact HIX.out.1
  clear hrow hown hfr hbl hps hNP
  by_cases hlt:i<M
  ·obtain ⟨b1,c1',em,hbm,hlm⟩:=HRM.out.row.form (show 0<M by omega)
   cases em
   have hcm:W.cell? ⟨b1,i,none⟩=some (rs1 i):=by rw[HRM.out.row.cellAt i (by omega)];simp[hlt]
   have HN1:=Xa ((HRM.out.nest i hlt).nodes (by have:=(HPF1.out.2 i hlt).1.1;omega) (HPF1.out.2 i hlt).2)
   obtain ⟨aR,cR,eR⟩:=Xj (HRM.out.nest i hlt).row
   obtain ⟨NR,hNR⟩:∃NR,(PL us i).length=NR:=⟨_,rfl⟩
   have HRI:Hid (rs1 i= .slice aR NR cR):=by rw[Hid,eR,hNR]
   rw[HRI.out] at hcm HN1
   clear hNR eR
   go_wp2_with fail
   go_loopw [12,13] (fun h k w4=>∃(n:Nat) (q:Bool),n≤M'∧k= .int .i64 n∧h= .bool q∧Hid (q=Zf (Wy us vs i) n)∧Below W.heap.size W w4) (fun _ k _=>M'-(intOf k).toNat)
   case atStart=>exact ⟨0,false,Nat.zero_le _,rfl,rfl,rfl,Below.refl _ _⟩
   case round =>
    obtain ⟨k,q,hk,rfl,rfl,HQ,hbk⟩:=hrel
    obtain ⟨W4,rfl⟩:∃W4,W4=wr:=⟨_,rfl⟩
    by_cases hlk:k<M'
    ·obtain ⟨b2,c2',eg,hbg,hlg⟩:=HRG.out.row.form (show 0<M' by omega)
     cases eg
     have hcg:W4.cell? ⟨b2,k,none⟩=some (rs2 k):=(Xc hbk hlg).trans (by rw[HRG.out.row.cellAt k (by omega)];simp[hlk])
     have hcm4:W4.cell? ⟨b1,i,none⟩=some (.slice aR NR cR):=(Xc hbk hlm).trans hcm
     have HNG:=Xa ((HRG.out.nest k hlk).nodes (by have:=(HPF2.out.2 k hlk).1.1;omega) (HPF2.out.2 k hlk).2)
     obtain ⟨aG,cG,eG⟩:=Xj (HRG.out.nest k hlk).row
     obtain ⟨NG,hNG⟩:∃NG,(PL vs k).length=NG:=⟨_,rfl⟩
     rw[eG,hNG] at hcg HNG
     have HHK:=Xa (HHO.out i k hlt hlk)
     have HAN:Hid (Zf (Wy us vs i) (k+1)=(Zf (Wy us vs i) k||Wy us vs i k)):=rfl
     have HHB:Hid (Wy us vs i k=decide (Yt (PL us i) (PL vs k)=0)):=rfl
     clear hNG eG
     cases q
     ·obtain ⟨Q,hQQ⟩:∃Q,Yt (PL us i) (PL vs k)=Q:=⟨_,rfl⟩
      rw[hQQ] at HHB HHK
      have HCMP:Hid (∀W',Below W4.heap.size W4 W'→Calls Tryz.prog 130 #[.slice aR NR cR, .slice aG NG cG] W' fun e w'=>e= .returned (.int .i64 Q)∧Below W'.heap.size W' w'):=fun W' hb'=>by
       have hz:=Nat.le_trans hbk.size hb'.size
       have hbb:Below W.heap.size W W':=hbk.trans (hb'.mono hbk.size)
       have a1:=Xp HHK.out.1
       have a2:=Xp HHK.out.2.1
       have:=Xey W.heap.size _ _ (PL us i) (PL vs k) W' ⟨HN1.out.below hbb,HNG.out.below hbb,a1.2.1,a2.2.1⟩ hz a1.1 a2.1
       rw[HHK.out.2.2] at this
       exact this
      have HBQ:Hid (Below W4.heap.size W4 W4.drew):=(Below.refl _ _).drew
      clear hQQ
      by_cases hQ0:Q=0
      ·have hQb:(Q==0)=true:=by simpa using hQ0
       have HANQ:Hid (true=Zf (Wy us vs i) (k+1)):=by rw[Hid,HAN.out,HHB.out,hQ0];simp
       clear hQ0
       go_wp2_with fail
       refine wp_region_any (by kernel_rfl) ?_
       change wpAny _ _ _ _ _ _ _ (World.drew _)
       refine wpAny_take (i:=0) (v:= .bool false) rfl (by kernel_rfl) (by kernel_rfl) (by kernel_rfl) (fun _ _ _ h=>h) (Or.inl ⟨by kernel_rfl,fun w=> ?_⟩) ?_
       ·go_simp
       refine wpAny_take (i:=1) (v:= .bool false) rfl (by kernel_rfl) (by kernel_rfl) (by kernel_rfl) (fun _ _ _ h=>h) (Or.inl ⟨by kernel_rfl,fun w=> ?_⟩) ?_
       ·go_simp
       refine wpAny_take (i:=2) (v:= .slice (some ⟨b1,0,none⟩) M cM) rfl (by kernel_rfl) (by kernel_rfl) (by kernel_rfl) (fun _ _ _ h=>h) (Or.inl ⟨by kernel_rfl,fun w=> ?_⟩) ?_
       ·go_simp
       refine wpAny_take (i:=3) (v:= .int .i64 i) rfl (by kernel_rfl) (by kernel_rfl) (by kernel_rfl) (fun _ _ _ h=>h) (Or.inl ⟨by kernel_rfl,fun w=> ?_⟩) ?_
       ·go_simp
       refine wpAny_take (i:=4) (v:= .pointer (some ⟨b1,i,none⟩)) rfl (by kernel_rfl) (by kernel_rfl) (by kernel_rfl) (fun _ _ _ h=>h) (Or.inl ⟨by kernel_rfl,fun w=> ?_⟩) ?_
       ·go_simp
       refine wpAny_take (i:=6) (v:= .slice (some ⟨b2,0,none⟩) M' cG0) rfl (by kernel_rfl) (by kernel_rfl) (by kernel_rfl) (fun _ _ _ h=>h) (Or.inl ⟨by kernel_rfl,fun w=> ?_⟩) ?_
       ·go_simp
       refine wpAny_take (i:=7) (v:= .int .i64 k) rfl (by kernel_rfl) (by kernel_rfl) (by kernel_rfl) (fun _ _ _ h=>h) (Or.inl ⟨by kernel_rfl,fun w=> ?_⟩) ?_
       ·go_simp
       refine wpAny_take (i:=8) (v:= .pointer (some ⟨b2,k,none⟩)) rfl (by kernel_rfl) (by kernel_rfl) (by kernel_rfl) (fun _ _ _ h=>h) (Or.inl ⟨by kernel_rfl,fun w=> ?_⟩) ?_
       ·go_simp
       refine wpAny_ready (rs:= [5,9]) (by kernel_rfl) (by simp) ?_
       refine AllReady.cons rfl (fun K hK=> ?_) ?_
       ·go_simp
        refine hK _ _ ?_
        clear hK K
        refine wpAny_ready (rs:= [9]) (by kernel_rfl) (by simp) ?_
        refine AllReady.cons rfl (fun K hK=> ?_) AllReady.nil
        go_simp
        refine hK _ _ ?_
        clear hK K
        refine wpAny_ready (rs:= [10]) (by kernel_rfl) (by simp) ?_
        refine AllReady.cons rfl (fun K hK=> ?_) AllReady.nil
        refine Xak (by kernel_rfl) 130 (.tmp 73) (.tmp 77) 25 25 (by kernel_rfl) (.slice aR NR cR) (.slice aG NG cG) (by kernel_rfl) (by kernel_rfl) (Wj _ _) (HCMP.out _ HBQ.out) ?_
        rintro e w5 ⟨rfl,hb5⟩
        have HB5:Hid (Below W.heap.size W w5):=hbk.trans ((HBQ.out.trans (hb5.mono HBQ.out.size)).mono hbk.size)
        clear hb5
        refine ⟨_,rfl, ?_⟩
        go_simp
        refine hK _ _ ?_
        clear hK K
        refine wpAny_ready (rs:= [11]) (by kernel_rfl) (by simp) ?_
        refine AllReady.cons rfl (fun K hK=> ?_) AllReady.nil
        go_simp
        refine hK _ _ ?_
        clear hK K
        refine wpAny_ready (rs:= [12]) (by kernel_rfl) (by simp) ?_
        refine AllReady.cons rfl (fun K hK=> ?_) AllReady.nil
        go_simp
        refine hK _ _ ?_
        clear hK K
        refine wpAny_ready (rs:= [13]) (by kernel_rfl) (by simp) ?_
        refine AllReady.cons rfl (fun K hK=> ?_) AllReady.nil
        go_simp
        refine hK _ _ ?_
        clear hK K
        refine wpAny_done (by kernel_rfl) ?_ _
        go_wp2_with fail
        go_roundw
        case rel=>exact ⟨k+1,true,by omega,by go_num,rfl,HANQ,HB5.out⟩
        case measure=>simp[intOf];omega
       ·refine AllReady.cons rfl (fun K hK=> ?_) AllReady.nil
        go_simp
        refine hK _ _ ?_
        clear hK K
        refine wpAny_ready (rs:= [5]) (by kernel_rfl) (by simp) ?_
        refine AllReady.cons rfl (fun K hK=> ?_) AllReady.nil
        go_simp
        refine hK _ _ ?_
        clear hK K
        refine wpAny_ready (rs:= [10]) (by kernel_rfl) (by simp) ?_
        refine AllReady.cons rfl (fun K hK=> ?_) AllReady.nil
        refine Xak (by kernel_rfl) 130 (.tmp 73) (.tmp 77) 25 25 (by kernel_rfl) (.slice aR NR cR) (.slice aG NG cG) (by kernel_rfl) (by kernel_rfl) (Wj _ _) (HCMP.out _ HBQ.out) ?_
        rintro e w5 ⟨rfl,hb5⟩
        have HB5:Hid (Below W.heap.size W w5):=hbk.trans ((HBQ.out.trans (hb5.mono HBQ.out.size)).mono hbk.size)
        clear hb5
        refine ⟨_,rfl, ?_⟩
        go_simp
        refine hK _ _ ?_
        clear hK K
        refine wpAny_ready (rs:= [11]) (by kernel_rfl) (by simp) ?_
        refine AllReady.cons rfl (fun K hK=> ?_) AllReady.nil
        go_simp
        refine hK _ _ ?_
        clear hK K
        refine wpAny_ready (rs:= [12]) (by kernel_rfl) (by simp) ?_
        refine AllReady.cons rfl (fun K hK=> ?_) AllReady.nil
        go_simp
        refine hK _ _ ?_
        clear hK K
        refine wpAny_ready (rs:= [13]) (by kernel_rfl) (by simp) ?_
        refine AllReady.cons rfl (fun K hK=> ?_) AllReady.nil
        go_simp
        refine hK _ _ ?_
        clear hK K
        refine wpAny_done (by kernel_rfl) ?_ _
        go_wp2_with fail
        go_roundw
        case rel=>exact ⟨k+1,true,by omega,by go_num,rfl,HANQ,HB5.out⟩
        case measure=>simp[intOf];omega
      ·have hQb:(Q==0)=false:=by simpa using hQ0
       have HANQ:Hid (false=Zf (Wy us vs i) (k+1)):=by rw[Hid,HAN.out,HHB.out,←HQ.out];simp[hQ0]
       clear hQ0
       go_wp2_with fail
       refine wp_region_any (by kernel_rfl) ?_
       change wpAny _ _ _ _ _ _ _ (World.drew _)
       refine wpAny_take (i:=0) (v:= .bool false) rfl (by kernel_rfl) (by kernel_rfl) (by kernel_rfl) (fun _ _ _ h=>h) (Or.inl ⟨by kernel_rfl,fun w=> ?_⟩) ?_
       ·go_simp
       refine wpAny_take (i:=1) (v:= .bool false) rfl (by kernel_rfl) (by kernel_rfl) (by kernel_rfl) (fun _ _ _ h=>h) (Or.inl ⟨by kernel_rfl,fun w=> ?_⟩) ?_
       ·go_simp
       refine wpAny_take (i:=2) (v:= .slice (some ⟨b1,0,none⟩) M cM) rfl (by kernel_rfl) (by kernel_rfl) (by kernel_rfl) (fun _ _ _ h=>h) (Or.inl ⟨by kernel_rfl,fun w=> ?_⟩) ?_
       ·go_simp
       refine wpAny_take (i:=3) (v:= .int .i64 i) rfl (by kernel_rfl) (by kernel_rfl) (by kernel_rfl) (fun _ _ _ h=>h) (Or.inl ⟨by kernel_rfl,fun w=> ?_⟩) ?_
       ·go_simp
       refine wpAny_take (i:=4) (v:= .pointer (some ⟨b1,i,none⟩)) rfl (by kernel_rfl) (by kernel_rfl) (by kernel_rfl) (fun _ _ _ h=>h) (Or.inl ⟨by kernel_rfl,fun w=> ?_⟩) ?_
       ·go_simp
       refine wpAny_take (i:=6) (v:= .slice (some ⟨b2,0,none⟩) M' cG0) rfl (by kernel_rfl) (by kernel_rfl) (by kernel_rfl) (fun _ _ _ h=>h) (Or.inl ⟨by kernel_rfl,fun w=> ?_⟩) ?_
       ·go_simp
       refine wpAny_take (i:=7) (v:= .int .i64 k) rfl (by kernel_rfl) (by kernel_rfl) (by kernel_rfl) (fun _ _ _ h=>h) (Or.inl ⟨by kernel_rfl,fun w=> ?_⟩) ?_
       ·go_simp
       refine wpAny_take (i:=8) (v:= .pointer (some ⟨b2,k,none⟩)) rfl (by kernel_rfl) (by kernel_rfl) (by kernel_rfl) (fun _ _ _ h=>h) (Or.inl ⟨by kernel_rfl,fun w=> ?_⟩) ?_
       ·go_simp
       refine wpAny_ready (rs:= [5,9]) (by kernel_rfl) (by simp) ?_
       refine AllReady.cons rfl (fun K hK=> ?_) ?_
       ·go_simp
        refine hK _ _ ?_
        clear hK K
        refine wpAny_ready (rs:= [9]) (by kernel_rfl) (by simp) ?_
        refine AllReady.cons rfl (fun K hK=> ?_) AllReady.nil
        go_simp
        refine hK _ _ ?_
        clear hK K
        refine wpAny_ready (rs:= [10]) (by kernel_rfl) (by simp) ?_
        refine AllReady.cons rfl (fun K hK=> ?_) AllReady.nil
        refine Xak (by kernel_rfl) 130 (.tmp 73) (.tmp 77) 25 25 (by kernel_rfl) (.slice aR NR cR) (.slice aG NG cG) (by kernel_rfl) (by kernel_rfl) (Wj _ _) (HCMP.out _ HBQ.out) ?_
        rintro e w5 ⟨rfl,hb5⟩
        have HB5:Hid (Below W.heap.size W w5):=hbk.trans ((HBQ.out.trans (hb5.mono HBQ.out.size)).mono hbk.size)
        clear hb5
        refine ⟨_,rfl, ?_⟩
        go_simp
        refine hK _ _ ?_
        clear hK K
        refine wpAny_ready (rs:= [11]) (by kernel_rfl) (by simp) ?_
        refine AllReady.cons rfl (fun K hK=> ?_) AllReady.nil
        go_simp
        refine hK _ _ ?_
        clear hK K
        refine wpAny_ready (rs:= [12]) (by kernel_rfl) (by simp) ?_
        refine AllReady.cons rfl (fun K hK=> ?_) AllReady.nil
        go_simp
        refine hK _ _ ?_
        clear hK K
        refine wpAny_ready (rs:= [13]) (by kernel_rfl) (by simp) ?_
        refine AllReady.cons rfl (fun K hK=> ?_) AllReady.nil
        go_simp
        refine hK _ _ ?_
        clear hK K
        refine wpAny_done (by kernel_rfl) ?_ _
        go_wp2_with fail
        go_roundw
        case rel=>exact ⟨k+1,false,by omega,by go_num,rfl,HANQ,HB5.out⟩
        case measure=>simp[intOf];omega
       ·refine AllReady.cons rfl (fun K hK=> ?_) AllReady.nil
        go_simp
        refine hK _ _ ?_
        clear hK K
        refine wpAny_ready (rs:= [5]) (by kernel_rfl) (by simp) ?_
        refine AllReady.cons rfl (fun K hK=> ?_) AllReady.nil
        go_simp
        refine hK _ _ ?_
        clear hK K
        refine wpAny_ready (rs:= [10]) (by kernel_rfl) (by simp) ?_
        refine AllReady.cons rfl (fun K hK=> ?_) AllReady.nil
        refine Xak (by kernel_rfl) 130 (.tmp 73) (.tmp 77) 25 25 (by kernel_rfl) (.slice aR NR cR) (.slice aG NG cG) (by kernel_rfl) (by kernel_rfl) (Wj _ _) (HCMP.out _ HBQ.out) ?_
        rintro e w5 ⟨rfl,hb5⟩
        have HB5:Hid (Below W.heap.size W w5):=hbk.trans ((HBQ.out.trans (hb5.mono HBQ.out.size)).mono hbk.size)
        clear hb5
        refine ⟨_,rfl, ?_⟩
        go_simp
        refine hK _ _ ?_
        clear hK K
        refine wpAny_ready (rs:= [11]) (by kernel_rfl) (by simp) ?_
        refine AllReady.cons rfl (fun K hK=> ?_) AllReady.nil
        go_simp
        refine hK _ _ ?_
        clear hK K
        refine wpAny_ready (rs:= [12]) (by kernel_rfl) (by simp) ?_
        refine AllReady.cons rfl (fun K hK=> ?_) AllReady.nil
        go_simp
        refine hK _ _ ?_
        clear hK K
        refine wpAny_ready (rs:= [13]) (by kernel_rfl) (by simp) ?_
        refine AllReady.cons rfl (fun K hK=> ?_) AllReady.nil
        go_simp
        refine hK _ _ ?_
        clear hK K
        refine wpAny_done (by kernel_rfl) ?_ _
        go_wp2_with fail
        go_roundw
        case rel=>exact ⟨k+1,false,by omega,by go_num,rfl,HANQ,HB5.out⟩
        case measure=>simp[intOf];omega
     ·have HANQ:Hid (true=Zf (Wy us vs i) (k+1)):=by rw[Hid,HAN.out,←HQ.out];rfl
      go_wp2_with fail
      go_quiet (fail)
      go_wp2_with fail
      go_roundw
      case rel=>exact ⟨k+1,true,by omega,by go_num,rfl,HANQ,below_drewN hbk nq⟩
      case measure=>simp[intOf];omega
    ·obtain rfl:k=M':=by omega
     have hcm4:W4.cell? ⟨b1,i,none⟩=some (.slice aR NR cR):=(Xc hbk hlm).trans hcm
     have HFR4:=Xa (HFR.out.below hbk)
     have HBL4:=Xa (HBL.out.trans (hbk.mono zW))
     have HROW4:=Xa (Vj HROW.out ((From.refl w.heap.size W).below hbk))
     cases q
     ·have HPK:Hid (Ym us vs (i+1)=ps++ [i]):=by rw[Hid,HLSi.out,←HQ.out];rfl
      go_wp2_with (at_builtin;refine wpList_append_own_at _ rfl _ _ 28 rfl w.heap.size 25 i0 (.slice none 0 0) 1 24 Tryz.underlying28 hi0 hz0 hs0 hy0 rfl (by decide) _ _ _ rfl (HROW4.out.alloc _) ⟨W4.heap.size,0,none⟩ 1 1 [.slice aR NR cR] rfl rfl ?c1 ?c2 ?c3 ?c4 ?c5 ?_)
      case c1=>exact cell_one_new _ _ _
      case c2=>intro u hu;simp at hu;subst hu;rfl
      case c3=>have:=HNP.out;unfold maxLen;omega
      case c4=>have:=HNP.out;omega
      case c5=>have:=HBL4.out.size;simp;omega
      intro v' w5 hown hgrow _ hat
      have HR5:Hid (w5.ownsRow w.heap.size 25 1 v' (Ym us vs (i+1)).length ((Ym us vs (i+1)).map rs1)):=by
       rw[Hid,HPK.out,List.map_append,List.length_append]
       simp only[List.map_cons,List.map_nil,List.length_singleton]
       rw[HRI.out]
       exact hown
      have z4:=hbk.size
      have HO5:Hid (∀g,v'.ownBlock=some g→g=WA.heap.size∨WW.heap.size≤g):=fun g hg=>by
       rcases hat with e|e
       ·rw[e] at hg;exact HOWN.out g hg
       ·rw[e] at hg;simp at hg;omega
      have HF5:Hid (From (WA.heap.size+1) WW w5):=by
       have hs5:=hgrow.size
       refine ⟨by have:=HFR4.out.1;simp at hs5;omega,fun c h1 h2=> ?_⟩
       refine Eq.trans ?_ (HFR4.out.2 c h1 h2)
       have hc4:c<W4.heap.size:=by have:=HFR4.out.1;omega
       refine (hgrow.block c (by simp;omega) (fun e=> ?_)).trans (((Below.refl W4.heap.size W4).alloc (Nat.le_refl _) _).block c hc4)
       have:=HOWN.out c (by simpa using e.symm)
       omega
      have HB5:Hid (Below w.heap.size w w5):=(HBL4.out.alloc HBL4.out.size _).grown hgrow (by have:=HBL4.out.size;simp;omega) (fun y hy=>(HROW4.out.lt y hy).1)
      clear hown hgrow hat
      go_wp2_with fail
      go_roundw
      case rel=>exact ⟨i+1,by omega,by go_num,HR5.out,HO5.out,HF5.out,HB5.out⟩
      case measure=>simp[intOf];omega
     ·have HPK:Hid (Ym us vs (i+1)=ps):=by rw[Hid,HLSi.out,←HQ.out,if_pos rfl]
      have HR5:Hid (W4.ownsRow w.heap.size 25 1 (.slice ao NP co) (Ym us vs (i+1)).length ((Ym us vs (i+1)).map rs1)):=by rw[Hid,HPK.out];exact HROW4.out
      go_wp2_with fail
      go_roundw
      case rel=>exact ⟨i+1,by omega,by go_num,HR5.out,HOWN.out,HFR4.out,HBL4.out⟩
      case measure=>simp[intOf];omega
  ·obtain rfl:i=M:=by omega
   have HRP:=Xa (Xy1 (L:=PL us) HROW.out (by have:=HNP.out;omega) (Nat.le_refl _) (m:=i) HIX.out.2 (fun j hj=>(HRM.out.nest j hj).nodes (by have:=(HPF1.out.2 j hj).1.1;omega) (HPF1.out.2 j hj).2))
   rw[HNP.out] at HRP
   have HEQ:Hid (Vp us vs=Yn 5 [] (fun j=>PL us (ps.getD j 0)) NP):=by rw[Hid,HLN.out,HLL.out,HPS.out,HNP.out]
   have HOKL:Hid (∀j,j<NP→okB (PL us (ps.getD j 0))=true):=fun j hj=>by
    have:=HLO.out j
    rw[HMM.out,HPS.out,HNP.out,HLL.out,HPS.out] at this
    exact this hj
   have HLE:=Xa (Vk HOKL.out NP (Nat.le_refl _))
   go_wp2_with fail
   refine (Xbl W.heap.size 5 _ _ [] NP (fun j=>PL us (ps.getD j 0)) W ⟨by simp,fun i hi=>absurd hi (by simp),none,0,rfl,fun h=>absurd h (by simp)⟩ HRP.out (Nat.le_refl _) (by omega) (by simp) (by have:=HLE.out;omega) (Xdl HOKL.out)).mono ?_
   rintro e w6 ⟨r,KV,IV,rfl,hn6,hb6⟩
   rw[←HEQ.out] at hn6
   have HN6:=Xa hn6
   have HB6:=Xa (HBL.out.trans (hb6.mono zW))
   obtain ⟨ar,cr,er⟩:=Xj hn6.row
   obtain ⟨NN,hNN⟩:∃NN,(Vp us vs).length=NN:=⟨_,rfl⟩
   rw[hNN] at er
   subst er
   clear hn6 hb6 hNN
   go_wp2_with fail
   go_ret2
   exact ⟨_,W.heap.size,KV,IV,by rw[HM.out.1];rfl,zW,by rw[HM.out.2];exact HN6.out,HB6.out⟩

def Jq (m:List (List VN)) (v:List VN) (k:Nat):List (List VN):=((m.take k).filter Xx).map fun _=>v
theorem Xle (m:List (List VN)) (v:List VN):Jq m v 0= []:=rfl
theorem Xz4 {m:List (List VN)} {v:List VN} {k:Nat} (h:k<m.length) (ht:Xx (Xl m k)=true):Jq m v (k+1)=Jq m v k++ [v]:=by
 unfold Jq
 rw[Vn h,if_pos ht,List.map_append]
 rfl
theorem X22 {m:List (List VN)} {v:List VN} {k:Nat} (h:k<m.length) (ht:Xx (Xl m k)=false):Jq m v (k+1)=Jq m v k:=by
 unfold Jq
 rw[Vn h,if_neg (by rw[ht];simp),List.append_nil]
theorem Xz5 (m:List (List VN)) (v:List VN):Jq m v m.length=(m.filter Xx).map fun _=>v:=by unfold Jq;rw[List.take_length]
theorem Xz6 (m:List (List VN)) (v:List VN) (k:Nat):(Jq m v k).length≤k:=by
 unfold Jq
 rw[List.length_map]
 exact Nat.le_trans (List.length_filter_le _ _) (by rw[List.length_take];exact Nat.min_le_left _ _)
def Qz (m:List (List VN)) (k:Nat):List (List VN):=(m.take k).filter Xx
theorem Xlf (m:List (List VN)):Qz m 0= []:=rfl
theorem Xz7 {m:List (List VN)} {k:Nat} (h:k<m.length) (ht:Xx (Xl m k)=true):Qz m (k+1)=Qz m k++ [Xl m k]:=by
 unfold Qz
 rw[Vn h,if_pos ht]
theorem X23 {m:List (List VN)} {k:Nat} (h:k<m.length) (ht:Xx (Xl m k)=false):Qz m (k+1)=Qz m k:=by
 unfold Qz
 rw[Vn h,if_neg (by rw[ht];simp),List.append_nil]
theorem Xn3 (m:List (List VN)):Qz m m.length=m.filter Xx:=by unfold Qz;rw[List.take_length]
theorem Xz8 (m:List (List VN)) (k:Nat):(Qz m k).length≤k:=by
 unfold Qz
 exact Nat.le_trans (List.length_filter_le _ _) (by rw[List.length_take];exact Nat.min_le_left _ _)
end Go.Proofs.YtdjddneidbddpaaGreatDoor
