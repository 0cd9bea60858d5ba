import Derived.Test.YtdjddneidbddpaaGreatDoorEvY
import Derived.Laws.EntriesVeiled
import Derived.Deep.RegionHeld3
import Derived.Test.YtdjddneidbddpaaGreatDoorEvV
import Derived.Test.YtdjddneidbddpaaGreatDoorSeM
import Derived.Test.YtdjddneidbddpaaGreatDoorSeQ
import Derived.Test.YtdjddneidbddpaaGreatDoorEvZ
import Derived.Test.YtdjddneidbddpaaGreatDoorIParts
import Derived.Test.YtdjddneidbddpaaGreatDoorFSpc3
namespace Go.Proofs.YtdjddneidbddpaaGreatDoor
set_option linter.unusedSectionVars false
set_option maxRecDepth 100000
set_option maxHeartbeats 25600000
open Go.RowKit
set_option linter.unusedSimpArgs false
set_option linter.unusedVariables false
theorem Xj5 {B Z E O d:Nat} {fv:Value} {fs:List FN} (hok:okF fs=true) (ho:Jb B E fv fs d) {x:FN} (hx:NodeOk fs x) (k1:15<=x.kind) (k2:x.kind<=20) {kc kn ki v:Value} {ns:List VN} {H:FuncId} {caps:Array Value} {h:X6} {st:Xs} {w:World} (hin:FNodeIn B w x kc kn ki) (hh:HandOk B Z E O d fv fs w H caps h) (hst:St B Z E O fv fs st w) (hv:Rep w ns v) (hd:st.1<=d):
  Calls Tryz.prog 115 #[.pointer (some ⟨E,0,none⟩),Ym x kc kn ki,v,X9 H caps] w (Y6 B Z E O fv fs (Xp (Xh fs d) (Xk x 0) ns (fun a=>Xp (Xh fs d) (Xk x 1) ns (fun b=>Yk (Yy x.kind a b) h)) st) w):=by
 have HN:=Xa hin
 have HH:=Xa hh
 have bn:=Xa hst
 have HV:=Xa hv
 have HX:=Xa hx
 obtain ⟨_,aC,cC,rfl,_⟩:=hin.cst
 obtain ⟨_,_,aK,cK,rfl,_⟩:=hin.names
 obtain ⟨_,_,aI,cI,rfl,_⟩:=hin.kids
 obtain ⟨ty,y,rfl⟩:=hv.iface
 have hO:=hst.hO
 have bo:=hst.hZ
 have bp:=hst.hEZ
 have hBZ:=hst.hBZ
 have C:=hst.ev.hBE
 obtain ⟨f,g⟩:∃f,(((w.alloc (.cells #[.pointer (some ⟨E,0,none⟩)] 103)).alloc (.cells #[.int .i64 x.kind, .string x.name, .int .i64 x.place, .slice aC x.cst.length cC, .slice aK x.names.length cK, .slice aI x.kids.length cI] 84)).alloc (.cells #[.iface ty y] 52)).alloc (.cells #[.func (.func H) #[] caps] 161)=f:=⟨_,rfl⟩
 have p:Hid (Below w.heap.size w f):=by rw[Hid,<-g];exact (((((Below.refl w.heap.size w).alloc (Nat.le_refl _) _).alloc (by simp<;>omega) _).alloc (by simp<;>omega) _).alloc (by simp<;>omega) _)
 have D:Hid (FrH Z E O w f):= .of_below p.out hst.hZ
 have ce:f.cell? ⟨w.heap.size,0,none⟩=some (.pointer (some ⟨E,0,none⟩)):=by rw[<-g];rw[World.cell?_alloc_past _ _ _ (by simp<;>omega)];rw[World.cell?_alloc_past _ _ _ (by simp<;>omega)];rw[World.cell?_alloc_past _ _ _ (by simp<;>omega)];rw[World.cell?_alloc_at _ _ _ _ (by simp)];rfl
 have G:f.cell? ⟨w.heap.size+1,0,none⟩=some (.int .i64 x.kind):=by rw[<-g];rw[World.cell?_alloc_past _ _ _ (by simp<;>omega)];rw[World.cell?_alloc_past _ _ _ (by simp<;>omega)];rw[World.cell?_alloc_at _ _ _ _ (by simp)];rfl
 have J:f.cell? ⟨w.heap.size+1,1,none⟩=some (.string x.name):=by rw[<-g];rw[World.cell?_alloc_past _ _ _ (by simp<;>omega)];rw[World.cell?_alloc_past _ _ _ (by simp<;>omega)];rw[World.cell?_alloc_at _ _ _ _ (by simp)];rfl
 have L:f.cell? ⟨w.heap.size+1,2,none⟩=some (.int .i64 x.place):=by rw[<-g];rw[World.cell?_alloc_past _ _ _ (by simp<;>omega)];rw[World.cell?_alloc_past _ _ _ (by simp<;>omega)];rw[World.cell?_alloc_at _ _ _ _ (by simp)];rfl
 have M:f.cell? ⟨w.heap.size+1,3,none⟩=some (.slice aC x.cst.length cC):=by rw[<-g];rw[World.cell?_alloc_past _ _ _ (by simp<;>omega)];rw[World.cell?_alloc_past _ _ _ (by simp<;>omega)];rw[World.cell?_alloc_at _ _ _ _ (by simp)];rfl
 have P:f.cell? ⟨w.heap.size+1,4,none⟩=some (.slice aK x.names.length cK):=by rw[<-g];rw[World.cell?_alloc_past _ _ _ (by simp<;>omega)];rw[World.cell?_alloc_past _ _ _ (by simp<;>omega)];rw[World.cell?_alloc_at _ _ _ _ (by simp)];rfl
 have s:f.cell? ⟨w.heap.size+1,5,none⟩=some (.slice aI x.kids.length cI):=by rw[<-g];rw[World.cell?_alloc_past _ _ _ (by simp<;>omega)];rw[World.cell?_alloc_past _ _ _ (by simp<;>omega)];rw[World.cell?_alloc_at _ _ _ _ (by simp)];rfl
 have S:Hid (NodeBox B f (w.heap.size+1) x (.slice aC x.cst.length cC) (.slice aK x.names.length cK) (.slice aI x.kids.length cI)):=⟨G,J,L,M,P,s,hin.below (p.out.mono (by omega))⟩
 have cv:f.cell? ⟨w.heap.size+2,0,none⟩=some (.iface ty y):=by rw[<-g];rw[World.cell?_alloc_past _ _ _ (by simp<;>omega)];rw[World.cell?_alloc_at _ _ _ _ (by simp)];rfl
 have ch:f.cell? ⟨w.heap.size+3,0,none⟩=some (.func (.func H) #[] caps):=by rw[<-g];rw[World.cell?_alloc_at _ _ _ _ (by simp)];rfl
 have bd:Hid (St B Z E O fv fs st f):=hst.below p.out
 have T:=Xa (HV.out.below p.out)
 have be:=Xa (hh.on D.out)
 have bq:f.heap.size=w.heap.size+4:=by rw[<-g];simp
 have h2:=hx.two (.inr (.inr ⟨k1,by omega⟩))
 obtain ⟨kb,ko,bl,ek,br,k4⟩:=S.out.inn.kids.get (j:=0) (by omega)
 injection ek with ek1 ek2 ek3
 subst ek1 ek3
 obtain ⟨R,hR⟩:∃R,Xp (Xh fs d) (Xk x 0) ns (fun a=>Xp (Xh fs d) (Xk x 1) ns (fun b=>Yk (Yy x.kind a b) h)) st=R:=⟨_,rfl⟩
 have HM:=Xa (Xon x.kind k1 k2 Z E O f (by omega) (by omega))
 obtain ⟨V,t⟩:∃V,Xk x 0=V:=⟨_,rfl⟩
 have X:Hid (∀l F q,MerOk Z E O l F q x.kind->Below f.heap.size f l->∀W,Below (l.alloc (.cells #[.func (.func F) #[] q] 197)).heap.size (l.alloc (.cells #[.func (.func F) #[] q] 197)) W->Calls Tryz.prog 110 #[.pointer (some ⟨E,0,none⟩), .int .i64 V, .iface ty y,X9 148 #[.pointer (some ⟨w.heap.size,0,none⟩), .pointer (some ⟨w.heap.size+1,0,none⟩), .pointer (some ⟨w.heap.size+2,0,none⟩), .pointer (some ⟨l.heap.size,0,none⟩), .pointer (some ⟨w.heap.size+3,0,none⟩)]] W fun e w'=>(∃v,e= .returned v/\Km w' R.1 v)/\FrH Z E O f w'/\St B Z E O fv fs R.2 w'):=fun l F q hm c W hbW=>by
  have bf:=c.size
  have o:Below f.heap.size f (l.alloc (.cells #[.func (.func F) #[] q] 197)):=c.alloc bf _
  have bg:Below l.heap.size l (l.alloc (.cells #[.func (.func F) #[] q] 197)):=(Below.refl _ _).alloc (Nat.le_refl _) _
  have z:FrH Z E O f (l.alloc (.cells #[.func (.func F) #[] q] 197)):= .of_below o (by omega)
  have Y:=bd.out.below o
  have bh:=hm.on (.of_below bg (by omega))
  have bi:=Xnu hok ho hx h2 (be.out.on z) (Nat.le_refl _) C (by omega) bh (T.out.below o) (fun w' hf=>Y.reads hf) (by simp;omega) (by simp;omega) (by simp;omega) (eb:=w.heap.size) (nb:=w.heap.size+1) (vb:=w.heap.size+2) (mb:=l.heap.size) (hb:=w.heap.size+3) ⟨by omega,by omega⟩ ⟨by omega,by omega⟩ ⟨by omega,by omega⟩ ⟨by omega,by omega⟩ ⟨by omega,by omega⟩ ((Xc o (by omega)).trans ce) (S.out.on z (by omega) (by omega) C (by omega)) ((Xc o (by omega)).trans cv) (by simp) ((Xc o (by omega)).trans ch)
  rw[<-hR,<-t]
  exact (Qw hok ho (hx.kid 0 (by omega)) bi Y (T.out.below o) hd hd hbW).mono fun e w' k=>⟨k.1,z.trans k.2.1,k.2.2⟩
 rw[hR]
 have k5:f.cell? ⟨kb,ko,none⟩=some (.int .i64 V):=by rw[<-t];unfold Xk;simpa using k4
 have bs:0<x.kids.length:=by omega
 have bm:(0:Int)<(x.kids.length:Int):=by omega
 have bt:kb<w.heap.size:=by omega
 clear hin hh hst hv hx hok ho hR t k4 h2
 go_enter Tryz.func115,Tryz.ntmps115
 go_wp2_with fail
 refine HM.out.mono ?_
 rintro e l ⟨F,q,rfl,hm,c⟩
 have bu:=Xa c
 have bj:=Xa (X.out l F q hm c)
 have d1:=(Xc c (by omega)).trans ce
 have d2:=(Xc c (by omega)).trans s
 have d3:=(Xc c (by omega)).trans cv
 have d4:=(Xc c (by omega)).trans ch
 have d5:=(Xc c (by omega)).trans k5
 have d6:w.heap.size+3<l.heap.size:=by have:=c.size;omega
 have d7:w.heap.size<l.heap.size:=by omega
 have d8:w.heap.size+1<l.heap.size:=by omega
 have d9:w.heap.size+1+1<l.heap.size:=by omega
 have bv:w.heap.size+1+1+1<l.heap.size:=by omega
 have bw:kb<l.heap.size:=by omega
 clear hm c ce G J L M P s cv ch k5
 go_wp2_with fail
 go_region_law (refine Q5 (by rfl) 110 _ _ _ _ _ _ _ _ (by rfl) (.pointer (some ⟨E,0,none⟩)) (.int .i64 V) (.iface ty y) (X9 148 #[.pointer (some ⟨w.heap.size,0,none⟩), .pointer (some ⟨w.heap.size+1,0,none⟩), .pointer (some ⟨w.heap.size+2,0,none⟩), .pointer (some ⟨l.heap.size,0,none⟩), .pointer (some ⟨w.heap.size+3,0,none⟩)]) (by rfl) (by rfl) (by rfl) (by rfl) (Jv _ _ _ _) (bj.out _ (by first|exact Below.refl _ _|exact (Below.refl _ _).drew)) ?_;rintro e w4 ⟨⟨ev,rfl,ba⟩,bb,bc⟩;refine ⟨_,rfl, ?_⟩)
 all_goals
  have HF:=Xa (D.out.trans bb)
  have HS:=Xa bc
  have bk:=Xa ba
  clear bb bc ba
  go_wp2_with fail
  go_ret
  exact ⟨⟨_,rfl,bk.out⟩,HF.out,HS.out⟩


theorem Xoq {B Z E O d:Nat} {fv:Value} {fs:List FN} (hok:okF fs=true) (ho:Jb B E fv fs d) {x:FN} (hx:NodeOk fs x) (k:x.kind=8) {kc kn ki v:Value} {ns:List VN} {H:FuncId} {caps:Array Value} {h:X6} {st:Xs} {w:World} (hin:FNodeIn B w x kc kn ki) (hh:HandOk B Z E O d fv fs w H caps h) (hst:St B Z E O fv fs st w) (hv:Rep w ns v) (hd:st.1<=d):
  Calls Tryz.prog 112 #[.pointer (some ⟨E,0,none⟩),Ym x kc kn ki,v,X9 H caps] w (Y6 B Z E O fv fs (Kc (Xh fs d) x ns h st) w):=by
 have HN:=Xa hin
 have HH:=Xa hh
 have b4:=Xa hst
 have HV:=Xa hv
 have HX:=Xa hx
 obtain ⟨_,aC,cC,rfl,_⟩:=hin.cst
 obtain ⟨_,_,aK,cK,rfl,_⟩:=hin.names
 obtain ⟨_,_,aI,cI,rfl,_⟩:=hin.kids
 obtain ⟨ty,y,rfl⟩:=hv.iface
 have hO:=hst.hO
 have bo:=hst.hZ
 have b5:=hst.hEZ
 have hBZ:=hst.hBZ
 have b6:=hst.ev.hBE
 obtain ⟨g,b⟩:∃g,w.alloc (.cells #[.int .i64 x.kind, .string x.name, .int .i64 x.place, .slice aC x.cst.length cC, .slice aK x.names.length cK, .slice aI x.kids.length cI] 84)=g:=⟨_,rfl⟩
 have q:Hid (Below w.heap.size w g):=by rw[Hid,<-b];exact ((Below.refl w.heap.size w).alloc (Nat.le_refl _) _)
 have X:Hid (FrH Z E O w g):= .of_below q.out hst.hZ
 have bd:g.cell? ⟨w.heap.size,0,none⟩=some (.int .i64 x.kind):=by rw[<-b];rw[World.cell?_alloc_at _ _ _ _ (by simp)];rfl
 have be:g.cell? ⟨w.heap.size,1,none⟩=some (.string x.name):=by rw[<-b];rw[World.cell?_alloc_at _ _ _ _ (by simp)];rfl
 have bf:g.cell? ⟨w.heap.size,2,none⟩=some (.int .i64 x.place):=by rw[<-b];rw[World.cell?_alloc_at _ _ _ _ (by simp)];rfl
 have bg:g.cell? ⟨w.heap.size,3,none⟩=some (.slice aC x.cst.length cC):=by rw[<-b];rw[World.cell?_alloc_at _ _ _ _ (by simp)];rfl
 have bh:g.cell? ⟨w.heap.size,4,none⟩=some (.slice aK x.names.length cK):=by rw[<-b];rw[World.cell?_alloc_at _ _ _ _ (by simp)];rfl
 have Y:g.cell? ⟨w.heap.size,5,none⟩=some (.slice aI x.kids.length cI):=by rw[<-b];rw[World.cell?_alloc_at _ _ _ _ (by simp)];rfl
 have bp:Hid (NodeBox B g (w.heap.size) x (.slice aC x.cst.length cC) (.slice aK x.names.length cK) (.slice aI x.kids.length cI)):=⟨bd,be,bf,bg,bh,Y,hin.below (q.out.mono (by omega))⟩
 have J:Hid (St B Z E O fv fs st g):=hst.below q.out
 have bq:=Xa (HV.out.below q.out)
 have L:=Xa (hh.on X.out)
 have b7:g.heap.size=w.heap.size+1:=by rw[<-b];simp
 by_cases hk0:x.kids.length=0
 ·obtain ⟨Q,S⟩:∃Q,Kc (Xh fs d) x ns h st=Q:=⟨_,rfl⟩
  have P:Hid (h (Zo []) st=Q):=by rw[Hid,<-S];unfold Kc;rw[if_pos hk0]
  have br:Hid (∀W,Rep W (Zo []) (.iface 158 (.agg #[.slice none 0 0]))):=fun W=>Rep.of (Xld (l:= []) ⟨by simp,none,0,rfl,fun hp=>absurd hp (by simp)⟩) (Xhm 5 [] (Xn []) 0 (fun i hi=>absurd hi (by omega))) Xau
  rw[S]
  rw[hk0] at b Y|-
  have b8:=Xa hk0
  clear hk0
  clear hin hh hst hv hx hok ho S k
  go_enter Tryz.func112,Tryz.ntmps112
  go_wp2_with fail
  rw[L.out.enter,Oper.upon_enter]
  refine (L.out.says _ (FrH.refl _ _ _ _) st _ _ hd J.out (br.out _)).mono ?_
  rw[P.out]
  rintro e w2 ⟨⟨ev,rfl,f⟩,bi,bj⟩
  have s:=Xa f
  have bs:=Xa (X.out.trans bi)
  have bt:=Xa bj
  clear f bi bj
  go_wp2_with fail
  go_ret
  exact ⟨⟨_,rfl,s.out⟩,bs.out,bt.out⟩
 ·obtain ⟨kb,ko,b1,ek,bu,k4⟩:=bp.out.inn.kids.get (j:=0) (by omega)
  injection ek with ek1 ek2 ek3
  subst ek1 ek3
  have ba:=hx.kid 0 (by omega)
  obtain ⟨V,t⟩:∃V:Nat,Xk x 0=(V:Int):=⟨(Xk x 0).toNat,by omega⟩
  have k5:g.cell? ⟨kb,ko,none⟩=some (.int .i64 (V:Int)):=by rw[<-t];unfold Xk;simpa using k4
  obtain ⟨r,hr⟩:∃r,Xh fs d V ns st.1=r:=⟨_,rfl⟩
  have o:=Ze hok d
  have bk:Hid (r.fu<=d):=by have:=o.le V ns st.1 hv.1;rw[hr] at this;exact Nat.le_trans this hd
  have bv:Hid (r.l.length<=40):=by have:=o.few V ns st.1 hv.1;rw[hr] at this;exact this
  have bl:=Xa (ho V (.iface ty y) ns st.1 g (by rw[t] at ba;simpa using ba.2) J.out.ev bq.out hd)
  rw[hr] at bl
  obtain ⟨Q,S⟩:∃Q,Kc (Xh fs d) x ns h st=Q:=⟨_,rfl⟩
  have bw:Hid (r.c≠0->Q=(r.c,(r.fu,st.2))):=fun e=>by rw[<-S];unfold Kc;rw[if_neg hk0,t,Int.toNat_natCast,hr,if_neg e]
  have bx:Hid (r.c=0->Q=Yk (Yo (Zo r.l)) h (r.fu,st.2)):=fun e=>by rw[<-S];unfold Kc;rw[if_neg hk0,t,Int.toNat_natCast,hr,if_pos e]
  rw[S]
  have bz:0<x.kids.length:=Nat.pos_of_ne_zero hk0
  have b2:¬(x.kids.length:Int)=0:=fun e=>hk0 (Int.natCast_eq_zero.1 e)
  have b3:(0:Int)<(x.kids.length:Int):=Int.natCast_pos.2 bz
  have b0:kb<w.heap.size:=Nat.lt_trans bu (Nat.lt_of_lt_of_le hBZ bo)
  have b9:w.cell? ⟨kb,ko,none⟩=some (.int .i64 (V:Int)):=(Xc q.out b0).symm.trans k5
  clear hin hh hst hv hx hok ho S hr t k4 ba k o hk0
  go_enter Tryz.func112,Tryz.ntmps112
  go_wp2_with fail
  try rw[b]
  refine bl.out.mono ?_
  rintro e w1 ⟨it,ev,rfl,bm,hb,he⟩
  have R:=Xa (J.out.step hb he)
  have bb:Hid (FrH Z E O g w1):=hb.frh J.out.hZ
  have z:=Xa (X.out.trans bb.out)
  clear hb he bd be bf bg bh Y k5
  rcases bm with ⟨h1,rfl,hit⟩|⟨h1,rfl,te,xe,rfl,hrs⟩
  ·have bc:=Xa (Xhj hit (by have:=bv.out;omega) R.out.ev.errs.now.two)
   obtain ⟨_,a,c,rfl,_⟩:=hit
   have P:Hid (Q=Yk (Yo (Zo r.l)) h (r.fu,st.2)):=bx.out h1
   obtain ⟨M,hM⟩:∃M,r.l.length=M:=⟨_,rfl⟩
   obtain ⟨T,hT⟩:∃T,Yo (Zo r.l)=T:=⟨_,rfl⟩
   rw[hT] at bc P
   rw[hM] at bc|-
   clear h1 hM hT
   go_wp2_with fail
   refine bc.out.mono ?_
   rintro e w5 ⟨ha,D⟩
   have ca:=Xa D
   rcases ha with ⟨h1,u,rfl,hre⟩|⟨h1,u,rfl,hre⟩
   ·have p:=Xa (Vh (L.out.on bb.out) R.out bk.out D (.inl ⟨h1,rfl,hre⟩))
    rw[<-P.out] at p
    obtain ⟨t6,y6,rfl⟩:=hre.iface
    clear D h1 hre
    go_wp2_with fail
    refine p.out.mono ?_
    rintro e w6 ⟨⟨ev,rfl,f⟩,F,G⟩
    have HF:=Xa (z.out.trans F)
    have HS:=Xa G
    have s:=Xa f
    clear F G f
    go_wp2_with fail
    go_ret
    exact ⟨⟨_,rfl,s.out⟩,HF.out,HS.out⟩
   ·have p:=Xa (Vh (L.out.on bb.out) R.out bk.out D (.inr ⟨h1,rfl,hre⟩))
    rw[<-P.out] at p
    obtain ⟨te,xe,rfl,_⟩:=hre
    obtain ⟨C,hC⟩:∃C,T.1=C:=⟨_,rfl⟩
    rw[hC] at p|-
    clear D h1 hC
    go_wp2_with fail
    refine p.out.mono ?_
    rintro e w6 ⟨⟨ev,rfl,f⟩,F,G⟩
    have HF:=Xa (z.out.trans F)
    have HS:=Xa G
    have s:=Xa f
    clear F G f
    go_wp2_with fail
    go_ret
    exact ⟨⟨_,rfl,s.out⟩,HF.out,HS.out⟩
  ·have P:Hid (Q=(r.c,(r.fu,st.2))):=bw.out h1
   have H1:=Xa h1
   have bn:=Xa hrs
   obtain ⟨C,hC⟩:∃C,r.c=C:=⟨_,rfl⟩
   rw[hC] at H1 bn P|-
   clear h1 hrs hC
   go_wp2_with fail
   go_ret
   exact ⟨⟨_,rfl, .inr (by rw[P.out];exact ⟨H1.out,te,xe,rfl,bn.out⟩)⟩,z.out,by rw[P.out];exact R.out⟩


theorem Xrg {B Z E O d:Nat} {fv:Value} {fs:List FN} (hok:okF fs=true) (ho:Jb B E fv fs d) {x:FN} (hx:NodeOk fs x) (k:x.kind=21) {kc kn ki v:Value} {ns:List VN} {H:FuncId} {caps:Array Value} {h:X6} {st:Xs} {w:World} (hin:FNodeIn B w x kc kn ki) (hh:HandOk B Z E O d fv fs w H caps h) (hst:St B Z E O fv fs st w) (hv:Rep w ns v) (hd:st.1<=d):
  Calls Tryz.prog 116 #[.pointer (some ⟨E,0,none⟩),Ym x kc kn ki,v,X9 H caps] w (Y6 B Z E O fv fs (Gn (Xh fs d) (Xk x 1) ns h (Zp (Xh fs d (Xk x 0).toNat ns st.1)) st.2) w):=by
 have HN:=Xa hin
 have HH:=Xa hh
 have co:=Xa hst
 have HV:=Xa hv
 have HX:=Xa hx
 obtain ⟨_,aC,cC,rfl,_⟩:=hin.cst
 obtain ⟨_,_,aK,cK,rfl,_⟩:=hin.names
 obtain ⟨_,_,aI,cI,rfl,_⟩:=hin.kids
 obtain ⟨ty,y,rfl⟩:=hv.iface
 have hO:=hst.hO
 have cp:=hst.hZ
 have cq:=hst.hEZ
 have hBZ:=hst.hBZ
 have cr:=hst.ev.hBE
 obtain ⟨o,b⟩:∃o,(w.alloc (.cells #[.int .i64 x.kind, .string x.name, .int .i64 x.place, .slice aC x.cst.length cC, .slice aK x.names.length cK, .slice aI x.kids.length cI] 84)).alloc (.cells #[.func (.func H) #[] caps] 161)=o:=⟨_,rfl⟩
 have D:Hid (Below w.heap.size w o):=by rw[Hid,<-b];exact (((Below.refl w.heap.size w).alloc (Nat.le_refl _) _).alloc (by simp<;>omega) _)
 have bh:Hid (FrH Z E O w o):= .of_below D.out hst.hZ
 have bi:o.cell? ⟨w.heap.size,0,none⟩=some (.int .i64 x.kind):=by rw[<-b];rw[World.cell?_alloc_past _ _ _ (by simp<;>omega)];rw[World.cell?_alloc_at _ _ _ _ (by simp)];rfl
 have bj:o.cell? ⟨w.heap.size,1,none⟩=some (.string x.name):=by rw[<-b];rw[World.cell?_alloc_past _ _ _ (by simp<;>omega)];rw[World.cell?_alloc_at _ _ _ _ (by simp)];rfl
 have bk:o.cell? ⟨w.heap.size,2,none⟩=some (.int .i64 x.place):=by rw[<-b];rw[World.cell?_alloc_past _ _ _ (by simp<;>omega)];rw[World.cell?_alloc_at _ _ _ _ (by simp)];rfl
 have bl:o.cell? ⟨w.heap.size,3,none⟩=some (.slice aC x.cst.length cC):=by rw[<-b];rw[World.cell?_alloc_past _ _ _ (by simp<;>omega)];rw[World.cell?_alloc_at _ _ _ _ (by simp)];rfl
 have bm:o.cell? ⟨w.heap.size,4,none⟩=some (.slice aK x.names.length cK):=by rw[<-b];rw[World.cell?_alloc_past _ _ _ (by simp<;>omega)];rw[World.cell?_alloc_at _ _ _ _ (by simp)];rfl
 have V:o.cell? ⟨w.heap.size,5,none⟩=some (.slice aI x.kids.length cI):=by rw[<-b];rw[World.cell?_alloc_past _ _ _ (by simp<;>omega)];rw[World.cell?_alloc_at _ _ _ _ (by simp)];rfl
 have bn:Hid (NodeBox B o (w.heap.size) x (.slice aC x.cst.length cC) (.slice aK x.names.length cK) (.slice aI x.kids.length cI)):=⟨bi,bj,bk,bl,bm,V,hin.below (D.out.mono (by omega))⟩
 have ch:o.cell? ⟨w.heap.size+1,0,none⟩=some (.func (.func H) #[] caps):=by rw[<-b];rw[World.cell?_alloc_at _ _ _ _ (by simp)];rfl
 have P:Hid (St B Z E O fv fs st o):=hst.below D.out
 have bo:=Xa (HV.out.below D.out)
 have bp:=Xa (hh.on bh.out)
 have b2:o.heap.size=w.heap.size+2:=by rw[<-b];simp
 have h2:=hx.two (.inr (.inr ⟨by omega,by omega⟩))
 obtain ⟨R,X,cj,ek,cs,k4⟩:=bn.out.inn.kids.get (j:=0) (by omega)
 obtain ⟨ct,cu,b3,bq,ck,br⟩:=bn.out.inn.kids.get (j:=1) (by omega)
 injection ek with ea1 ea2 ea3
 rw[ea1] at bq
 injection bq with eb1 eb2 eb3
 injection eb1 with eb1
 injection eb1 with eb1 eb4 eb5
 clear eb2 eb3 eb5
 subst ea1 ea3 eb1 eb4
 have ba:=hx.kid 0 (by omega)
 obtain ⟨K0,S⟩:∃K0:Nat,Xk x 0=(K0:Int):=⟨(Xk x 0).toNat,by omega⟩
 obtain ⟨K1,bb⟩:∃K1,Xk x 1=K1:=⟨_,rfl⟩
 have k5:o.cell? ⟨R,X,none⟩=some (.int .i64 (K0:Int)):=by rw[<-S];unfold Xk;simpa using k4
 have k6:o.cell? ⟨R,X+1,none⟩=some (.int .i64 K1):=by rw[<-bb];exact br
 obtain ⟨r,hr⟩:∃r,Zp (Xh fs d K0 ns st.1)=r:=⟨_,rfl⟩
 have p:(∀x∈r.l,okB x=true)/\r.fu<=st.1:=by rw[<-hr];exact Xam (Ze hok d) K0 hv.1 st.1
 rw[S,Int.toNat_natCast,hr]
 have bs:=Xa (Xh7 ho K0 (.iface ty y) ns st.1 o (by rw[S] at ba;simpa using ba.2) P.out.ev bo.out hd)
 rw[hr] at bs
 have b4:Hid (r.fu<=d):=Nat.le_trans p.2 hd
 have b5:Hid (r.l.length<=40):=by rw[Hid,<-hr];unfold Zp;split;simp;exact (Ze hok d).few _ _ _ hv.1
 obtain ⟨Q,hQ⟩:∃Q,Gn (Xh fs d) (Xk x 1) ns h r st.2=Q:=⟨_,rfl⟩
 have b6:Hid (r.c≠0->Q=(r.c,(r.fu,st.2))):=fun e=>by rw[<-hQ];unfold Gn;rw[if_neg e]
 have b7:Hid (r.c=0->r.l.any Xu=true->Q=Xq (Va h) r.l (r.fu,st.2)):=fun e t=>by rw[<-hQ];unfold Gn;rw[if_pos e,if_pos t]
 obtain ⟨G,hG⟩:∃G,Xp (Xh fs d) (Xk x 1) ns h (r.fu,st.2)=G:=⟨_,rfl⟩
 have b8:Hid (r.c=0->r.l.any Xu=false->Q=G):=fun e t=>by rw[<-hQ,<-hG];unfold Gn;rw[if_pos e,if_neg (by rw[t];simp)]
 have b9:Hid (∀q,FrH Z E O o q->St B Z E O fv fs (r.fu,st.2) q->∀W,Below q.heap.size q W->Calls Tryz.prog 110 #[.pointer (some ⟨E,0,none⟩), .int .i64 K1, .iface ty y,X9 H caps] W fun e w'=>(∃v,e= .returned v/\Km w' G.1 v)/\FrH Z E O q w'/\St B Z E O fv fs G.2 w'):=fun q g hs1 W hb=>by
  rw[<-bb,<-hG]
  exact Qw hok ho (hx.kid 1 (by omega)) (bp.out.on g) hs1 (bo.out.reads (P.out.reads g)) (Nat.le_trans p.2 hd) (Nat.le_trans p.2 hd) hb
 have ca:Hid (HandOk B Z E O d fv fs o 152 #[.pointer (some ⟨w.heap.size+1,0,none⟩)] (Va h)):=X1q bp.out ⟨by omega,by omega⟩ ch
 rw[hQ]
 have cv:1<x.kids.length:=by omega
 have cl:(1:Int)<(x.kids.length:Int):=by omega
 have cm:0<x.kids.length:=by omega
 have cn:(0:Int)<(x.kids.length:Int):=by omega
 have cb:R<w.heap.size:=by omega
 have cc:w.cell? ⟨R,X,none⟩=some (.int .i64 (K0:Int)):=(Xc D.out cb).symm.trans k5
 clear hin hh hst hv hx hok ho hr hQ bb S k4 br h2 ba p k hG
 go_enter Tryz.func116,Tryz.ntmps116
 go_wp2_with fail
 try rw[b]
 refine bs.out.mono ?_
 rintro e q ⟨it,ev,rfl,bt,hb,he⟩
 have s:=Xa (P.out.step hb he)
 have g:FrH Z E O o q:=hb.frh P.out.hZ
 have bu:=Xa g
 have F:=Xa (bh.out.trans g)
 have g1:=g.cell _ _ _ (by omega) (by omega) (by intro e;cases e) V
 have g2:=g.cell _ _ _ (by omega) (by omega) (by intro e;cases e) ch
 have g3:=g.cell _ _ _ (by omega) (by omega) (by intro e;cases e) k6
 have cd:=g.size
 have ce:R<q.heap.size:=by omega
 have cw:w.heap.size+1<q.heap.size:=by omega
 clear hb he g ch bi bj bk bl bm V k5 k6 b2 cd b cc
 rcases bt with ⟨h1,rfl,hit⟩|⟨h1,rfl,te,xe,rfl,hrs⟩
 ·have bc:=Xa hit
  obtain ⟨_,a,c,rfl,_⟩:=hit
  have T:r.l.length<=1000:=by have:=b5.out;omega
  have bd:=Xa (Xfh _ r.l q bc.out T)
  obtain ⟨tb,be⟩:∃tb,r.l.any Xu=tb:=⟨_,rfl⟩
  have bv:=Xa be
  obtain ⟨M,hM⟩:∃M,r.l.length=M:=⟨_,rfl⟩
  rw[be,hM] at bd
  have bw:=Xa bc.out
  rw[hM] at bc|-
  have H1:=Xa h1
  have HM:=Xa hM
  clear h1 hM be T
  cases tb
  ·obtain rfl:Q=G:=b8.out H1.out bv.out
   go_wp2_with fail
   refine bd.out.mono ?_
   rintro e w5 ⟨rfl,f⟩
   have bx:=Xa f
   have cf:=Xa (b9.out q bu.out s.out)
   have i1:=(Xc f (by omega)).trans g1
   have i2:=(Xc f (by omega)).trans g2
   have i3:=(Xc f ce).trans g3
   clear f
   have bz:Hid (∀Y,FrH Z E O q Y->(Y.cell? ⟨w.heap.size,5,none⟩=some (.slice (some ⟨R,X,none⟩) x.kids.length cI)/\Y.cell? ⟨w.heap.size+1,0,none⟩=some (X9 H caps)/\Y.cell? ⟨R,X+1,none⟩=some (.int .i64 K1))):=fun Y hY=>⟨hY.cell _ _ _ (by omega) (by omega) (by intro e;cases e) g1,hY.cell _ _ _ (by omega) (by omega) (by intro e;cases e) g2,hY.cell _ _ _ (by omega) (by omega) (by intro e;cases e) g3⟩
   have cg:Hid (FrH Z E O q w5.drew):= .of_below bx.out.drew s.out.hZ
   clear g1 g2 g3
   go_wp2_with fail
   go_region_held3 (fun w'=>w'.cell? ⟨w.heap.size,5,none⟩=some (.slice (some ⟨R,X,none⟩) x.kids.length cI)/\w'.cell? ⟨w.heap.size+1,0,none⟩=some (X9 H caps)/\w'.cell? ⟨R,X+1,none⟩=some (.int .i64 K1))
    (first|exact bz.out _ z|exact bz.out _ cg.out)
    (first
     |(go_at_call 110;refine (cf.out _ bx.out.drew).mono ?_;rintro e w4 ⟨⟨ev,rfl,J⟩,z,L⟩))
   all_goals
    have HF:=Xa (F.out.trans z)
    have HS:=Xa L
    have bf:=Xa J
    clear z L J
    go_wp2_with fail
    go_ret
    exact ⟨⟨_,rfl,bf.out⟩,HF.out,HS.out⟩
  ·have HQ:Hid (Q=Xq (Va h) r.l (r.fu,st.2)):=b7.out H1.out bv.out
   go_wp2_with fail
   refine bd.out.mono ?_
   rintro e w5 ⟨rfl,f⟩
   have bg:FrH Z E O q w5:= .of_below f s.out.hZ
   have b0:=Xa (Gt (ca.out.on (bu.out.trans bg)) (s.out.below f) (bw.out.reads (ButE.reads (.of_below (E:=E) f) s.out.ev)) b4.out)
   rw[<-HQ.out,HM.out] at b0
   have ci:=Xa (F.out.trans bg)
   have i2:=(Xc f (by omega)).trans g2
   clear f g1 g2 g3 bg
   go_wp2_with fail
   refine b0.out.mono ?_
   rintro e w6 ⟨⟨ev,rfl,J⟩,z,L⟩
   have HF:=Xa (ci.out.trans z)
   have HS:=Xa L
   have bf:=Xa J
   clear z L J
   go_wp2_with fail
   go_ret
   exact ⟨⟨_,rfl,bf.out⟩,HF.out,HS.out⟩
 ·have HQ:Hid (Q=(r.c,(r.fu,st.2))):=b6.out h1
  have H1:=Xa h1
  have b1:=Xa hrs
  obtain ⟨C,hC⟩:∃C,r.c=C:=⟨_,rfl⟩
  rw[hC] at H1 b1 HQ|-
  clear h1 hrs hC
  go_wp2_with fail
  go_ret
  exact ⟨⟨_,rfl, .inr (by rw[HQ.out];exact ⟨H1.out,te,xe,rfl,b1.out⟩)⟩,F.out,by rw[HQ.out];exact s.out⟩


theorem bx5 (w:World) {a n0 n1 n2 n3 n4 n5 y c f:Value} {W:World} (h:(((((w.alloc (.cells #[a] 103)).alloc (.cells #[n0,n1,n2,n3,n4,n5] 84)).alloc (.cells #[y] 52)).alloc (.cells #[c] 58)).alloc (.cells #[f] 161))=W):
  Below w.heap.size w W/\W.cell? ⟨w.heap.size,0,none⟩=some a/\W.cell? ⟨w.heap.size+1,0,none⟩=some n0/\W.cell? ⟨w.heap.size+1,1,none⟩=some n1/\W.cell? ⟨w.heap.size+1,2,none⟩=some n2/\W.cell? ⟨w.heap.size+1,3,none⟩=some n3/\W.cell? ⟨w.heap.size+1,4,none⟩=some n4/\W.cell? ⟨w.heap.size+1,5,none⟩=some n5/\W.cell? ⟨w.heap.size+2,0,none⟩=some y/\W.cell? ⟨w.heap.size+3,0,none⟩=some c/\W.cell? ⟨w.heap.size+4,0,none⟩=some f/\W.heap.size=w.heap.size+5:=by
 subst h
 refine ⟨(((((Below.refl w.heap.size w).alloc (by simp<;>omega) _).alloc (by simp<;>omega) _).alloc (by simp<;>omega) _).alloc (by simp<;>omega) _).alloc (by simp<;>omega) _, ?_, ?_, ?_, ?_, ?_, ?_, ?_, ?_, ?_, ?_,by simp⟩
 ·iterate 4 rw[World.cell?_alloc_past _ _ _ (by simp<;>omega)]
  rw[World.cell?_alloc_at _ _ _ _ (by simp)];rfl
 iterate 6
  ·iterate 3 rw[World.cell?_alloc_past _ _ _ (by simp<;>omega)]
   rw[World.cell?_alloc_at _ _ _ _ (by simp)];rfl
 ·iterate 2 rw[World.cell?_alloc_past _ _ _ (by simp<;>omega)]
  rw[World.cell?_alloc_at _ _ _ _ (by simp)];rfl
 ·rw[World.cell?_alloc_past _ _ _ (by simp<;>omega)]
  rw[World.cell?_alloc_at _ _ _ _ (by simp)];rfl
 ·rw[World.cell?_alloc_at _ _ _ _ (by simp)];rfl
theorem Xzs {B Z E O d:Nat} {fv:Value} {fs:List FN} (hok:okF fs=true) (ho:Jb B E fv fs d) {x:FN} (hx:NodeOk fs x) (h5:x.kids.length<=5) (hn5:x.names.length<=200) {m:Nat} (ih:Xfq B Z E O d fv fs d x m):Xfq B Z E O d fv fs d x (m+1):=by
 intro b ch v kc kn ki F H G h st w hm f hh c hv J hd
 have HN:=Xa f
 have HH:=Xa hh
 have bu:=Xa c
 have HV:=Xa hv
 have L:=Xa J
 obtain ⟨_,aC,cC,rfl,_⟩:=f.cst
 obtain ⟨_,_,aK,cK,rfl,_⟩:=f.names
 obtain ⟨_,_,aI,cI,rfl,_⟩:=f.kids
 obtain ⟨ty,y,rfl⟩:=hv.iface
 obtain ⟨_,aD,cD,rfl,_⟩:=J
 have hO:=c.hO
 have bv:=c.hZ
 have bw:=c.hEZ
 have hBZ:=c.hBZ
 have bf:=c.ev.hBE
 obtain ⟨g,p⟩:∃g,(((((w.alloc (.cells #[.pointer (some ⟨E,0,none⟩)] 103)).alloc (.cells #[.int .i64 x.kind, .string x.name, .int .i64 x.place, .slice aC x.cst.length cC, .slice aK x.names.length cK, .slice aI x.kids.length cI] 84)).alloc (.cells #[.iface ty y] 52)).alloc (.cells #[.slice aD b.length cD] 58)).alloc (.cells #[.func (.func H) #[] G] 161))=g:=⟨_,rfl⟩
 obtain ⟨P,ce,bg,bh,bi,bj,bk,S,cv,cc,bl,bx⟩:=bx5 w p
 have l:=Xa P
 have q:Hid (FrH Z E O w g):= .of_below l.out c.hZ
 have bm:Hid (NodeBox B g (w.heap.size+1) x (.slice aC x.cst.length cC) (.slice aK x.names.length cK) (.slice aI x.kids.length cI)):=⟨bg,bh,bi,bj,bk,S,f.below (l.out.mono (by omega))⟩
 have s:Hid (St B Z E O fv fs st g):=c.below l.out
 have T:=Xa (HV.out.below l.out)
 have V:Hid (ItemsRep g _ b):=L.out.reads (c.reads q.out)
 have bn:=Xa (hh.on q.out)
 have o:b.length<x.kids.length:=by omega
 have X:=hx.kid b.length o
 have e9:Z3 (Xh fs d) x.names F h (x.kids.drop b.length) b st=Xp (Xh fs d) (Xk x b.length) F (fun y=>Z3 (Xh fs d) x.names F h (x.kids.drop (b.length+1)) (b++ [y])) st:=by
  rw[X1x o];rfl
 rw[e9]
 obtain ⟨C,ko,bq,ek,bz,k4⟩:=(f.below (l.out.mono (by omega))).kids.get (j:=b.length) o
 injection ek with ek1 ek2 ek3
 subst ek1 ek3
 have ba:=Xa (X10 (D:=d) hok ih h5 hm bn.out bf (by omega) T.out V.out (fun w' hf=>s.out.reads hf) (eb:=w.heap.size) (nb:=w.heap.size+1) (vb:=w.heap.size+2) (cb:=w.heap.size+3) (hb:=w.heap.size+4) ⟨by omega,by omega⟩ ⟨by omega,by omega⟩ ⟨by omega,by omega⟩ ⟨by omega,by omega⟩ ⟨by omega,by omega⟩ ce bm.out cv cc bl)
 obtain ⟨R,hR⟩:∃R,Xp (Xh fs d) (Xk x b.length) F (fun y=>Z3 (Xh fs d) x.names F h (x.kids.drop (b.length+1)) (b++ [y])) st=R:=⟨_,rfl⟩
 have bb:Hid (∀W,Below g.heap.size g W->Calls Tryz.prog 110 #[.pointer (some ⟨E,0,none⟩), .int .i64 (Xk x b.length), .iface ty y,X9 143 #[.pointer (some ⟨w.heap.size,0,none⟩), .pointer (some ⟨w.heap.size+1,0,none⟩), .pointer (some ⟨w.heap.size+2,0,none⟩), .pointer (some ⟨w.heap.size+3,0,none⟩), .pointer (some ⟨w.heap.size+4,0,none⟩)]] W fun e w'=>(∃v,e= .returned v/\Km w' R.1 v)/\FrH Z E O g w'/\St B Z E O fv fs R.2 w'):=fun W hb=>by
  rw[<-hR]
  exact Qw hok ho X ba.out s.out T.out hd hd hb
 rw[hR]
 obtain ⟨K1,t⟩:∃K1,Xk x b.length=K1:=⟨_,rfl⟩
 have k5:g.cell? ⟨C,ko+b.length,none⟩=some (.int .i64 K1):=by rw[<-t];unfold Xk;simpa using k4
 rw[t] at bb
 obtain ⟨M,hM⟩:∃M,b.length=M:=⟨_,rfl⟩
 rw[hM] at p cc k5 o|-
 have br:(M:Int)<(x.kids.length:Int):=by omega
 have bs:¬(M:Int)=(x.kids.length:Int):=by omega
 have bt:¬M=x.kids.length:=by omega
 have b0:C<w.heap.size:=by omega
 have bc:Hid (∀Y,FrH Z E O g Y->(Y.cell? ⟨w.heap.size,0,none⟩=some (.pointer (some ⟨E,0,none⟩))/\Y.cell? ⟨w.heap.size+1,5,none⟩=some (.slice (some ⟨C,ko,none⟩) x.kids.length cI)/\Y.cell? ⟨w.heap.size+2,0,none⟩=some (.iface ty y)/\Y.cell? ⟨w.heap.size+3,0,none⟩=some (.slice aD M cD)/\Y.cell? ⟨C,ko+M,none⟩=some (.int .i64 K1))):=fun Y hY=>⟨hY.cell _ _ _ (by omega) (by omega) (by intro e;cases e) ce,hY.cell _ _ _ (by omega) (by omega) (by intro e;cases e) S,hY.cell _ _ _ (by omega) (by omega) (by intro e;cases e) cv,hY.cell _ _ _ (by omega) (by omega) (by intro e;cases e) cc,hY.cell _ _ _ (by omega) (by omega) (by intro e;cases e) k5⟩
 have bo:Hid (FrH Z E O g g.drew):= .of_below (Below.refl _ _).drew s.out.hZ
 have b1:=Xa p
 clear P f hh c hv hx hok ho hR t k4 ba ih hm hM e9 X V L
 go_enter Tryz.func113,Tryz.ntmps113
 go_wp2_with fail
 go_region_held3 (fun w'=>w'.cell? ⟨w.heap.size,0,none⟩=some (.pointer (some ⟨E,0,none⟩))/\w'.cell? ⟨w.heap.size+1,5,none⟩=some (.slice (some ⟨C,ko,none⟩) x.kids.length cI)/\w'.cell? ⟨w.heap.size+2,0,none⟩=some (.iface ty y)/\w'.cell? ⟨w.heap.size+3,0,none⟩=some (.slice aD M cD)/\w'.cell? ⟨C,ko+M,none⟩=some (.int .i64 K1))
  (first|exact bc.out _ z|exact bc.out _ bo.out)
  (first
   |(go_at_call 110;refine (bb.out _ (by first|exact Below.refl _ _|exact (Below.refl _ _).drew)).mono ?_;rintro e w4 ⟨⟨ev,rfl,bd⟩,z,be⟩))
 all_goals
  have HF:=Xa (q.out.trans z)
  have HS:=Xa be
  have bp:=Xa bd
  clear z be bd
  go_wp2_with fail
  go_ret
  exact ⟨⟨_,rfl,bp.out⟩,HF.out,HS.out⟩
theorem Xzt {B Z E O d:Nat} {fv:Value} {fs:List FN} (hok:okF fs=true) (ho:Jb B E fv fs d) {x:FN} (hx:NodeOk fs x) (h5:x.kids.length<=5) (hn5:x.names.length<=200):Xfq B Z E O d fv fs d x 0:=by
 intro b ch v kc kn ki ns H S h st w hm f hh c hv T hd
 have HN:=Xa f
 have HH:=Xa hh
 have bi:=Xa c
 have HV:=Xa hv
 have ba:=Xa T
 obtain ⟨_,aC,cC,rfl,_⟩:=f.cst
 obtain ⟨_,_,aK,cK,rfl,_⟩:=f.names
 obtain ⟨_,_,aI,cI,rfl,_⟩:=f.kids
 obtain ⟨ty,y,rfl⟩:=hv.iface
 obtain ⟨_,aD,cD,rfl,_⟩:=T
 have hO:=c.hO
 have bj:=c.hZ
 have bk:=c.hEZ
 have hBZ:=c.hBZ
 have bl:=c.ev.hBE
 obtain ⟨t,z⟩:∃t,(((((w.alloc (.cells #[.pointer (some ⟨E,0,none⟩)] 103)).alloc (.cells #[.int .i64 x.kind, .string x.name, .int .i64 x.place, .slice aC x.cst.length cC, .slice aK x.names.length cK, .slice aI x.kids.length cI] 84)).alloc (.cells #[.iface ty y] 52)).alloc (.cells #[.slice aD b.length cD] 58)).alloc (.cells #[.func (.func H) #[] S] 161))=t:=⟨_,rfl⟩
 obtain ⟨bb,ce,bc,bd,be,bf,bg,V,cv,cc,C,bm⟩:=bx5 w z
 have l:=Xa bb
 have D:Hid (FrH Z E O w t):= .of_below l.out c.hZ
 have bn:Hid (NodeBox B t (w.heap.size+1) x (.slice aC x.cst.length cC) (.slice aK x.names.length cK) (.slice aI x.kids.length cI)):=⟨bc,bd,be,bf,bg,V,f.below (l.out.mono (by omega))⟩
 have F:Hid (St B Z E O fv fs st t):=c.below l.out
 have bo:=Xa (HV.out.below l.out)
 have bh:Hid (ItemsRep t _ b):=ba.out.reads (c.reads D.out)
 have X:=Xa (hh.on D.out)
 have G:b.length=x.kids.length:=by omega
 have e9:Z3 (Xh fs d) x.names ns h (x.kids.drop b.length) b st=Yk (Yo (Xcs x.names b)) h st:=by
  rw[G,List.drop_length];rfl
 rw[e9]
 have Y:StrsAt t.heap.size t (.slice aK x.names.length cK) x.names:=((f.below (l.out.mono (by omega))).names).wide (by omega)
 have J:=Xa (X3g (w:=t) bh.out Y (by omega) hn5 F.out.ev.errs.now.two)
 obtain ⟨Q,hQ⟩:∃Q,Yo (Xcs x.names b)=Q:=⟨_,rfl⟩
 rw[hQ] at J|-
 obtain ⟨P,hP⟩:∃P,Yk Q h st=P:=⟨_,rfl⟩
 have HP:=Xa hP
 have L:x.kids.length=b.length:=G.symm
 obtain ⟨M,hM⟩:∃M,b.length=M:=⟨_,rfl⟩
 rw[hM] at J z cc L|-
 rw[L] at V z|-
 rw[hP]
 clear f hh c hv hx hok ho hm hM e9 G L hQ hP Y h5
 go_enter Tryz.func113,Tryz.ntmps113
 go_wp2_with fail
 try rw[z]
 refine J.out.mono ?_
 rintro e w5 ⟨(⟨h1,rx,rfl,g⟩|⟨h1,rx,rfl,g⟩),j⟩
 ·have o:=Xa (Vh X.out F.out hd j (.inl ⟨h1,rfl,g⟩))
  rw[HP.out] at o
  obtain ⟨t6,y6,rfl⟩:=g.iface
  have g4:=(Xc j (by omega)).trans C
  clear j h1 g C
  go_wp2_with fail
  refine o.out.mono ?_
  rintro e w6 ⟨⟨ev,rfl,p⟩,q,s⟩
  have HF:=Xa (D.out.trans q)
  have HS:=Xa s
  have R:=Xa p
  clear q s p
  go_wp2_with fail
  go_ret
  exact ⟨⟨_,rfl,R.out⟩,HF.out,HS.out⟩
 ·have o:=Xa (Vh X.out F.out hd j (.inr ⟨h1,rfl,g⟩))
  rw[HP.out] at o
  obtain ⟨te,xe,rfl,_⟩:=g
  have g4:=(Xc j (by omega)).trans C
  clear j h1 C
  go_wp2_with fail
  refine o.out.mono ?_
  rintro e w6 ⟨⟨ev,rfl,p⟩,q,s⟩
  have HF:=Xa (D.out.trans q)
  have HS:=Xa s
  have R:=Xa p
  clear q s p
  go_wp2_with fail
  go_ret
  exact ⟨⟨_,rfl,R.out⟩,HF.out,HS.out⟩
theorem Xsb {B Z E O d:Nat} {fv:Value} {fs:List FN} (hok:okF fs=true) (ho:Jb B E fv fs d) {x:FN} (hx:NodeOk fs x) (h5:x.kids.length<=5) (hn5:x.names.length<=200):∀m,Xfq B Z E O d fv fs d x m
 |0=>Xzt hok ho hx h5 hn5
 |m+1=>Xzs hok ho hx h5 hn5 (Xsb hok ho hx h5 hn5 m)


structure Bx3 (w W:World) (a n0 n1 n2 n3 n4 n5 f:Value):Prop where
 below:Below w.heap.size w W
 ce:W.cell? ⟨w.heap.size,0,none⟩=some a
 cn0:W.cell? ⟨w.heap.size+1,0,none⟩=some n0
 cn1:W.cell? ⟨w.heap.size+1,1,none⟩=some n1
 cn2:W.cell? ⟨w.heap.size+1,2,none⟩=some n2
 cn3:W.cell? ⟨w.heap.size+1,3,none⟩=some n3
 cn4:W.cell? ⟨w.heap.size+1,4,none⟩=some n4
 cn5:W.cell? ⟨w.heap.size+1,5,none⟩=some n5
 ch:W.cell? ⟨w.heap.size+2,0,none⟩=some f
 size:W.heap.size=w.heap.size+3
theorem bx3 (w:World) (a n0 n1 n2 n3 n4 n5 f:Value):Bx3 w (((w.alloc (.cells #[a] 103)).alloc (.cells #[n0,n1,n2,n3,n4,n5] 84)).alloc (.cells #[f] 161)) a n0 n1 n2 n3 n4 n5 f:=by
 refine ⟨((Below.refl w.heap.size w).alloc (Nat.le_refl _) _).alloc (by simp) _|>.alloc (by simp<;>omega) _, ?_, ?_, ?_, ?_, ?_, ?_, ?_, ?_,by simp⟩
 ·rw[World.cell?_alloc_past _ _ _ (by simp<;>omega)];rw[World.cell?_alloc_past _ _ _ (by simp<;>omega)];rw[World.cell?_alloc_at _ _ _ _ (by simp)];rfl
 ·rw[World.cell?_alloc_past _ _ _ (by simp<;>omega)];rw[World.cell?_alloc_at _ _ _ _ (by simp)];rfl
 ·rw[World.cell?_alloc_past _ _ _ (by simp<;>omega)];rw[World.cell?_alloc_at _ _ _ _ (by simp)];rfl
 ·rw[World.cell?_alloc_past _ _ _ (by simp<;>omega)];rw[World.cell?_alloc_at _ _ _ _ (by simp)];rfl
 ·rw[World.cell?_alloc_past _ _ _ (by simp<;>omega)];rw[World.cell?_alloc_at _ _ _ _ (by simp)];rfl
 ·rw[World.cell?_alloc_past _ _ _ (by simp<;>omega)];rw[World.cell?_alloc_at _ _ _ _ (by simp)];rfl
 ·rw[World.cell?_alloc_past _ _ _ (by simp<;>omega)];rw[World.cell?_alloc_at _ _ _ _ (by simp)];rfl
 ·rw[World.cell?_alloc_at _ _ _ _ (by simp)];rfl
theorem Wm {B Z E O d:Nat} {fv:Value} {fs:List FN} (hok:okF fs=true) (ho:Jb B E fv fs d) {x:FN} (hx:NodeOk fs x) (k:x.kind=8\/x.kind=10\/x.kind=15\/x.kind=16\/x.kind=17\/x.kind=18\/x.kind=19\/x.kind=20\/x.kind=21\/x.kind=22\/x.kind=23) {kc kn ki v:Value} {ns:List VN} {H:FuncId} {caps:Array Value} {h:X6} {st:Xs} {w:World} (hin:FNodeIn B w x kc kn ki) (hh:HandOk B Z E O d fv fs w H caps h) (hst:St B Z E O fv fs st w) (hv:Rep w ns v) (hd:st.1<=d):
  Calls Tryz.prog 63 #[.pointer (some ⟨E,0,none⟩),Ym x kc kn ki,v,X9 H caps] w (Y6 B Z E O fv fs (evM (Xh fs d) x ns h st) w):=by
 obtain ⟨_,M,P,rfl,_⟩:=id hin.cst
 obtain ⟨_,_,S,T,rfl,_⟩:=id hin.names
 obtain ⟨_,_,V,X,rfl,_⟩:=id hin.kids
 obtain ⟨ty,y,rfl⟩:=hv.iface
 have hO:=hst.hO
 have bi:=hst.hZ
 have bj:=hst.hEZ
 have hBZ:=hst.hBZ
 have bk:=hst.ev.hBE
 have q:=bx3 w (.pointer (some ⟨E,0,none⟩)) (.int .i64 x.kind) (.string x.name) (.int .i64 x.place) (.slice M x.cst.length P) (.slice S x.names.length T) (.slice V x.kids.length X) (X9 H caps)
 obtain ⟨c,f⟩:∃c,((w.alloc (.cells #[.pointer (some ⟨E,0,none⟩)] 103)).alloc (.cells #[.int .i64 x.kind, .string x.name, .int .i64 x.place, .slice M x.cst.length P, .slice S x.names.length T, .slice V x.kids.length X] 84)).alloc (.cells #[X9 H caps] 161)=c:=⟨_,rfl⟩
 rw[f] at q
 obtain ⟨b,ce,s,Y,ba,bb,bc,bd,ch,bl⟩:=q
 have bm:=Xa b
 have t:Hid (FrH Z E O w c):= .of_below b hst.hZ
 have z:Hid (NodeBox B c (w.heap.size+1) x (.slice M x.cst.length P) (.slice S x.names.length T) (.slice V x.kids.length X)):=⟨s,Y,ba,bb,bc,bd,hin.below (b.mono (by omega))⟩
 have C:Hid (St B Z E O fv fs st c):=hst.below b
 have be:=Xa (hv.below b)
 have bf:=Xa (hh.on t.out)
 clear b
 obtain ⟨R,hR⟩:∃R,evM (Xh fs d) x ns h st=R:=⟨_,rfl⟩
 have HC:Hid (∀F K,x.kind=K->((F=112/\K=8)\/(F=114/\K=10)\/(F=115/\15<=K/\K<=20)\/(F=116/\K=21)\/(F=117/\K=22)\/(F=118/\K=23))->∀W,Below c.heap.size c W->Calls Tryz.prog F #[.pointer (some ⟨E,0,none⟩), .agg #[.int .i64 x.kind, .string x.name, .int .i64 x.place, .slice M x.cst.length P, .slice S x.names.length T, .slice V x.kids.length X], .iface ty y,X9 H caps] W fun e w'=>(∃v,e= .returned v/\Km w' R.1 v)/\FrH Z E O c w'/\St B Z E O fv fs R.2 w'):=fun F K hK hF W hb=>by
  have g:FrH Z E O c W:= .of_below hb C.out.hZ
  have j:=z.out.inn.below (hb.mono (by omega))
  have l:=bf.out.on g
  have o:=C.out.below hb
  have p:=be.out.below hb
  subst hK
  rw[<-hR]
  rcases hF with ⟨rfl,_⟩|⟨rfl,_⟩|⟨rfl,_⟩|⟨rfl,_⟩|⟨rfl,_⟩|⟨rfl,_⟩
  ·rw[Xga (by omega)];exact (Xoq hok ho hx (by omega) j l o p hd).mono fun e w' k=>⟨k.1,g.trans k.2.1,k.2.2⟩
  ·rw[Xla (by omega)];exact (Xj4 hok ho hx (by omega) j l o p hd).mono fun e w' k=>⟨k.1,g.trans k.2.1,k.2.2⟩
  ·rw[Xxd (by omega) (by omega)];exact (Xj5 hok ho hx (by omega) (by omega) j l o p hd).mono fun e w' k=>⟨k.1,g.trans k.2.1,k.2.2⟩
  ·rw[Xxe (by omega)];exact (Xrg hok ho hx (by omega) j l o p hd).mono fun e w' k=>⟨k.1,g.trans k.2.1,k.2.2⟩
  ·rw[X2c (by omega)];exact (Xue hok ho hx (by omega) j l o p hd).mono fun e w' k=>⟨k.1,g.trans k.2.1,k.2.2⟩
  ·rw[Xxf (by omega)];exact (Xrn hok ho hx (hx.one (.inr (by omega))) j l o p hd).mono fun e w' k=>⟨k.1,g.trans k.2.1,k.2.2⟩
 rw[hR]
 unfold Ym
 obtain ⟨KK,D⟩:∃KK,x.kind=KK:=⟨_,rfl⟩
 rw[D] at HC s f k|-
 have bg:Hid (Below c.heap.size c c.drew):=(Below.refl _ _).drew
 clear hin hh hst hv hx hok ho hR D z
 rcases k with rfl|rfl|rfl|rfl|rfl|rfl|rfl|rfl|rfl|rfl|rfl
 all_goals
  go_enter Tryz.func63,Tryz.ntmps63
  go_wp2_with fail
  (try rw[f])
  refine (HC.out _ _ rfl (by decide) _ (by first|exact Below.refl _ _|exact bg.out)).mono ?_
  rintro e w4 ⟨⟨ev,rfl,G⟩,J,L⟩
  have HF:=Xa (t.out.trans J)
  have HS:=Xa L
  have bh:=Xa G
  clear J L G
  go_wp2_with fail
  go_ret
  exact ⟨⟨_,rfl,bh.out⟩,HF.out,HS.out⟩


theorem Xtg {B Z E O d:Nat} {fv:Value} {fs:List FN} (hok:okF fs=true) (ho:Jb B E fv fs d) {x:FN} (hx:NodeOk fs x) (k:x.kind=14) {kc kn ki v:Value} {ns:List VN} {H:FuncId} {caps:Array Value} {h:X6} {st:Xs} {w:World} (hin:FNodeIn B w x kc kn ki) (hh:HandOk B Z E O d fv fs w H caps h) (hst:St B Z E O fv fs st w) (hv:Rep w ns v) (hd:st.1<=d):
  Calls Tryz.prog 63 #[.pointer (some ⟨E,0,none⟩),Ym x kc kn ki,v,X9 H caps] w (Y6 B Z E O fv fs (evM (Xh fs d) x ns h st) w):=by
 obtain ⟨_,p,q,rfl,_⟩:=id hin.cst
 obtain ⟨_,_,s,t,rfl,_⟩:=id hin.names
 obtain ⟨_,_,z,C,rfl,_⟩:=id hin.kids
 obtain ⟨ty,y,rfl⟩:=hv.iface
 have hO:=hst.hO
 have X:=hst.hZ
 have Y:=hst.hEZ
 have hBZ:=hst.hBZ
 have ba:=hst.ev.hBE
 have f:=bx3 w (.pointer (some ⟨E,0,none⟩)) (.int .i64 x.kind) (.string x.name) (.int .i64 x.place) (.slice p x.cst.length q) (.slice s x.names.length t) (.slice z x.kids.length C) (X9 H caps)
 obtain ⟨g,c⟩:∃g,((w.alloc (.cells #[.pointer (some ⟨E,0,none⟩)] 103)).alloc (.cells #[.int .i64 x.kind, .string x.name, .int .i64 x.place, .slice p x.cst.length q, .slice s x.names.length t, .slice z x.kids.length C] 84)).alloc (.cells #[X9 H caps] 161)=g:=⟨_,rfl⟩
 rw[c] at f
 obtain ⟨b,ce,j,D,F,G,J,L,ch,bb⟩:=f
 have bc:=Xa b
 have l:Hid (FrH Z E O w g):= .of_below b hst.hZ
 have M:Hid (NodeBox B g (w.heap.size+1) x (.slice p x.cst.length q) (.slice s x.names.length t) (.slice z x.kids.length C)):=⟨j,D,F,G,J,L,hin.below (b.mono (by omega))⟩
 have P:Hid (St B Z E O fv fs st g):=hst.below b
 have bd:=Xa (hv.below b)
 have be:=Xa (hh.on l.out)
 clear b
 obtain ⟨R,S⟩:∃R,evM (Xh fs d) x ns h st=R:=⟨_,rfl⟩
 have V:Hid (R=(0,st)):=by rw[Hid,<-S];exact Xow k
 rw[S]
 unfold Ym
 obtain ⟨T,o⟩:∃T,x.kind=T:=⟨_,rfl⟩
 rw[o] at j c|-
 obtain rfl:T=14:=by omega
 clear hin hh hst hv hx hok ho S o M k
 go_enter Tryz.func63,Tryz.ntmps63
 go_wp2_with fail
 try rw[c]
 go_ret
 exact ⟨⟨_,rfl, .inl ⟨by rw[V.out],rfl⟩⟩,l.out,by rw[V.out];exact P.out⟩
theorem Xv2 {B Z E O d:Nat} {fv:Value} {fs:List FN} (hok:okF fs=true) (ho:Jb B E fv fs d) {x:FN} (hx:NodeOk fs x) (k:x.kind=4) {kc kn ki v:Value} {ns:List VN} {H:FuncId} {caps:Array Value} {h:X6} {st:Xs} {w:World} (hin:FNodeIn B w x kc kn ki) (hh:HandOk B Z E O d fv fs w H caps h) (hst:St B Z E O fv fs st w) (hv:Rep w ns v) (hd:st.1<=d):
  Calls Tryz.prog 63 #[.pointer (some ⟨E,0,none⟩),Ym x kc kn ki,v,X9 H caps] w (Y6 B Z E O fv fs (evM (Xh fs d) x ns h st) w):=by
 obtain ⟨_,J,L,rfl,_⟩:=id hin.cst
 obtain ⟨_,_,M,P,rfl,_⟩:=id hin.names
 obtain ⟨_,_,S,T,rfl,_⟩:=id hin.kids
 obtain ⟨ty,y,rfl⟩:=hv.iface
 have hO:=hst.hO
 have be:=hst.hZ
 have bf:=hst.hEZ
 have hBZ:=hst.hBZ
 have bg:=hst.ev.hBE
 have l:=bx3 w (.pointer (some ⟨E,0,none⟩)) (.int .i64 x.kind) (.string x.name) (.int .i64 x.place) (.slice J x.cst.length L) (.slice M x.names.length P) (.slice S x.kids.length T) (X9 H caps)
 obtain ⟨b,f⟩:∃b,((w.alloc (.cells #[.pointer (some ⟨E,0,none⟩)] 103)).alloc (.cells #[.int .i64 x.kind, .string x.name, .int .i64 x.place, .slice J x.cst.length L, .slice M x.names.length P, .slice S x.kids.length T] 84)).alloc (.cells #[X9 H caps] 161)=b:=⟨_,rfl⟩
 rw[f] at l
 obtain ⟨c,ce,g,o,p,q,s,t,ch,bh⟩:=l
 have bi:=Xa c
 have z:Hid (FrH Z E O w b):= .of_below c hst.hZ
 have X:Hid (NodeBox B b (w.heap.size+1) x (.slice J x.cst.length L) (.slice M x.names.length P) (.slice S x.kids.length T)):=⟨g,o,p,q,s,t,hin.below (c.mono (by omega))⟩
 have j:Hid (St B Z E O fv fs st b):=hst.below c
 have ba:=Xa (hv.below c)
 have bb:=Xa (hh.on z.out)
 clear c
 obtain ⟨R,hR⟩:∃R,evM (Xh fs d) x ns h st=R:=⟨_,rfl⟩
 have HC:Hid (∀W,Below b.heap.size b W->Calls Tryz.prog 109 #[.iface ty y,X9 H caps] W fun e w'=>(∃v,e= .returned v/\Km w' R.1 v)/\FrH Z E O b w'/\St B Z E O fv fs R.2 w'):=fun W hb=>by
  have hf:FrH Z E O b W:= .of_below hb j.out.hZ
  rw[<-hR,Xsk k]
  exact (Xpd (bb.out.on hf) (j.out.below hb) (ba.out.below hb) hd).mono fun e w' k=>⟨k.1,hf.trans k.2.1,k.2.2⟩
 rw[hR]
 unfold Ym
 obtain ⟨V,C⟩:∃V,x.kind=V:=⟨_,rfl⟩
 rw[C] at g f|-
 have bj:Hid (∀Y,FrH Z E O b Y->(Y.cell? ⟨w.heap.size,0,none⟩=some (.pointer (some ⟨E,0,none⟩))/\Y.cell? ⟨w.heap.size+1,0,none⟩=some (.int .i64 V)/\Y.cell? ⟨w.heap.size+1,1,none⟩=some (.string x.name)/\Y.cell? ⟨w.heap.size+1,2,none⟩=some (.int .i64 x.place)/\Y.cell? ⟨w.heap.size+1,3,none⟩=some (.slice J x.cst.length L)/\Y.cell? ⟨w.heap.size+1,4,none⟩=some (.slice M x.names.length P)/\Y.cell? ⟨w.heap.size+1,5,none⟩=some (.slice S x.kids.length T)/\Y.cell? ⟨w.heap.size+2,0,none⟩=some (.func (.func H) #[] caps))):=fun Y hY=>⟨hY.cell _ _ _ (by omega) (by omega) (by intro e;cases e) ce,hY.cell _ _ _ (by omega) (by omega) (by intro e;cases e) g,hY.cell _ _ _ (by omega) (by omega) (by intro e;cases e) o,hY.cell _ _ _ (by omega) (by omega) (by intro e;cases e) p,hY.cell _ _ _ (by omega) (by omega) (by intro e;cases e) q,hY.cell _ _ _ (by omega) (by omega) (by intro e;cases e) s,hY.cell _ _ _ (by omega) (by omega) (by intro e;cases e) t,hY.cell _ _ _ (by omega) (by omega) (by intro e;cases e) ch⟩
 have bk:Hid (FrH Z E O b b.drew):= .of_below (Below.refl _ _).drew j.out.hZ
 have bc:Hid (Below b.heap.size b b.drew):=(Below.refl _ _).drew
 obtain rfl:V=4:=by omega
 clear hin hh hst hv hx hok ho hR C X k
 go_enter Tryz.func63,Tryz.ntmps63
 go_wp2_with fail
 try rw[f]
 have bl:=Xa f
 clear f
 refine (HC.out _ (by first|exact Below.refl _ _|exact bc.out)).mono ?_
 rintro e w4 ⟨⟨ev,rfl,D⟩,F,G⟩
 have HF:=Xa (z.out.trans F)
 have HS:=Xa G
 have bd:=Xa D
 clear F G D
 go_wp2_with fail
 go_ret
 exact ⟨⟨_,rfl,bd.out⟩,HF.out,HS.out⟩
theorem Xv3 {B Z E O d:Nat} {fv:Value} {fs:List FN} (hok:okF fs=true) (ho:Jb B E fv fs d) {x:FN} (hx:NodeOk fs x) (k:x.kind=6) {kc kn ki v:Value} {ns:List VN} {H:FuncId} {caps:Array Value} {h:X6} {st:Xs} {w:World} (hin:FNodeIn B w x kc kn ki) (hh:HandOk B Z E O d fv fs w H caps h) (hst:St B Z E O fv fs st w) (hv:Rep w ns v) (hd:st.1<=d):
  Calls Tryz.prog 63 #[.pointer (some ⟨E,0,none⟩),Ym x kc kn ki,v,X9 H caps] w (Y6 B Z E O fv fs (evM (Xh fs d) x ns h st) w):=by
 obtain ⟨_,G,J,rfl,_⟩:=id hin.cst
 obtain ⟨_,_,L,M,rfl,_⟩:=id hin.names
 obtain ⟨_,_,P,S,rfl,_⟩:=id hin.kids
 obtain ⟨ty,y,rfl⟩:=hv.iface
 have hO:=hst.hO
 have bj:=hst.hZ
 have bk:=hst.hEZ
 have hBZ:=hst.hBZ
 have T:=hst.ev.hBE
 have o:=bx3 w (.pointer (some ⟨E,0,none⟩)) (.int .i64 x.kind) (.string x.name) (.int .i64 x.place) (.slice G x.cst.length J) (.slice L x.names.length M) (.slice P x.kids.length S) (X9 H caps)
 obtain ⟨c,f⟩:∃c,((w.alloc (.cells #[.pointer (some ⟨E,0,none⟩)] 103)).alloc (.cells #[.int .i64 x.kind, .string x.name, .int .i64 x.place, .slice G x.cst.length J, .slice L x.names.length M, .slice P x.kids.length S] 84)).alloc (.cells #[X9 H caps] 161)=c:=⟨_,rfl⟩
 rw[f] at o
 obtain ⟨b,ce,p,V,X,Y,ba,bb,ch,bl⟩:=o
 have bm:=Xa b
 have q:Hid (FrH Z E O w c):= .of_below b hst.hZ
 have g:Hid (NodeBox B c (w.heap.size+1) x (.slice G x.cst.length J) (.slice L x.names.length M) (.slice P x.kids.length S)):=⟨p,V,X,Y,ba,bb,hin.below (b.mono (by omega))⟩
 have bc:Hid (St B Z E O fv fs st c):=hst.below b
 have bd:=Xa (hv.below b)
 have be:=Xa (hh.on q.out)
 clear b
 obtain ⟨R,hR⟩:∃R,evM (Xh fs d) x ns h st=R:=⟨_,rfl⟩
 have h2:=hx.two (by omega)
 obtain ⟨kb,ko,bh,ek,bn,k4⟩:=g.out.inn.kids.get (j:=0) (by omega)
 injection ek with ek1 ek2 ek3
 subst ek1 ek3
 obtain ⟨s,l⟩:∃s,Xk x 0=s:=⟨_,rfl⟩
 obtain ⟨K1,bf⟩:∃K1,Xk x 1=K1:=⟨_,rfl⟩
 have k5:c.cell? ⟨kb,ko,none⟩=some (.int .i64 s):=by rw[<-l];unfold Xk;simpa using k4
 have t:=Xa (Xye hok ho hx h2 be.out (Nat.le_refl _) T (by omega) (eb:=w.heap.size) (nb:=w.heap.size+1) (hb:=w.heap.size+2) ⟨by omega,by omega⟩ ⟨by omega,by omega⟩ ⟨by omega,by omega⟩ ce g.out ch)
 have HC:Hid (∀W,Below c.heap.size c W->Calls Tryz.prog 110 #[.pointer (some ⟨E,0,none⟩), .int .i64 s, .iface ty y,X9 111 #[.pointer (some ⟨w.heap.size,0,none⟩), .pointer (some ⟨w.heap.size+1,0,none⟩), .pointer (some ⟨w.heap.size+2,0,none⟩)]] W fun e w'=>(∃v,e= .returned v/\Km w' R.1 v)/\FrH Z E O c w'/\St B Z E O fv fs R.2 w'):=fun W hb=>by
  rw[<-hR,Xsl k,<-l]
  exact Qw hok ho (hx.kid 0 (by omega)) t.out bc.out bd.out hd hd hb
 rw[hR]
 unfold Ym
 obtain ⟨KK,z⟩:∃KK,x.kind=KK:=⟨_,rfl⟩
 rw[z] at p f|-
 have bo:0<x.kids.length:=by omega
 have bi:(0:Int)<(x.kids.length:Int):=by omega
 have bp:kb<w.heap.size:=by omega
 obtain rfl:KK=6:=by omega
 clear hin hh hst hv hx hok ho hR z g l bf k4 h2 t k
 go_enter Tryz.func63,Tryz.ntmps63
 go_wp2_with fail
 (try rw[f])
 (try rw[f] at *)
 go_region_law (refine Q5 (by rfl) 110 _ _ _ _ _ _ _ _ (by rfl) (.pointer (some ⟨E,0,none⟩)) (.int .i64 s) (.iface ty y) (X9 111 #[.pointer (some ⟨w.heap.size,0,none⟩), .pointer (some ⟨w.heap.size+1,0,none⟩), .pointer (some ⟨w.heap.size+2,0,none⟩)]) (by rfl) (by rfl) (by rfl) (by rfl) (Jv _ _ _ _) (HC.out _ (by first|exact Below.refl _ _|exact (Below.refl _ _).drew)) ?_;rintro e w4 ⟨⟨ev,rfl,C⟩,D,F⟩;refine ⟨_,rfl, ?_⟩)
 all_goals
  have HF:=Xa (q.out.trans D)
  have HS:=Xa F
  have bg:=Xa C
  clear D F C
  go_wp2_with fail
  go_ret
  exact ⟨⟨_,rfl,bg.out⟩,HF.out,HS.out⟩


theorem Xt1 {B Z E O d:Nat} {fv:Value} {fs:List FN} (hok:okF fs=true) (ho:Jb B E fv fs d) {x:FN} (hx:NodeOk fs x) (k:x.kind=7) {kc kn ki v:Value} {ns:List VN} {H:FuncId} {caps:Array Value} {h:X6} {st:Xs} {w:World} (hin:FNodeIn B w x kc kn ki) (hh:HandOk B Z E O d fv fs w H caps h) (hst:St B Z E O fv fs st w) (hv:Rep w ns v) (hd:st.1<=d):
  Calls Tryz.prog 63 #[.pointer (some ⟨E,0,none⟩),Ym x kc kn ki,v,X9 H caps] w (Y6 B Z E O fv fs (evM (Xh fs d) x ns h st) w):=by
 obtain ⟨_,aC,cC,rfl,_⟩:=id hin.cst
 obtain ⟨_,_,aK,cK,rfl,_⟩:=id hin.names
 obtain ⟨_,_,aI,cI,rfl,_⟩:=id hin.kids
 obtain ⟨ty,y,rfl⟩:=hv.iface
 have hO:=hst.hO
 have bz:=hst.hZ
 have b0:=hst.hEZ
 have hBZ:=hst.hBZ
 have b1:=hst.ev.hBE
 have P:=bx3 w (.pointer (some ⟨E,0,none⟩)) (.int .i64 x.kind) (.string x.name) (.int .i64 x.place) (.slice aC x.cst.length cC) (.slice aK x.names.length cK) (.slice aI x.kids.length cI) (X9 H caps)
 obtain ⟨g,p⟩:∃g,((w.alloc (.cells #[.pointer (some ⟨E,0,none⟩)] 103)).alloc (.cells #[.int .i64 x.kind, .string x.name, .int .i64 x.place, .slice aC x.cst.length cC, .slice aK x.names.length cK, .slice aI x.kids.length cI] 84)).alloc (.cells #[X9 H caps] 161)=g:=⟨_,rfl⟩
 rw[p] at P
 obtain ⟨f,ce,s,S,T,V,X,t,ch,b2⟩:=P
 have b3:=Xa f
 have z:Hid (FrH Z E O w g):= .of_below f hst.hZ
 have C:Hid (NodeBox B g (w.heap.size+1) x (.slice aC x.cst.length cC) (.slice aK x.names.length cK) (.slice aI x.kids.length cI)):=⟨s,S,T,V,X,t,hin.below (f.mono (by omega))⟩
 have ba:Hid (St B Z E O fv fs st g):=hst.below f
 have bb:=Xa (hv.below f)
 have bc:=Xa (hh.on z.out)
 clear f
 obtain ⟨R,hR⟩:∃R,evM (Xh fs d) x ns h st=R:=⟨_,rfl⟩
 have h2:=hx.two (by omega)
 obtain ⟨L,ko,bt,ek,b4,k4⟩:=C.out.inn.kids.get (j:=0) (by omega)
 injection ek with ek1 bd ek3
 subst ek1 ek3
 obtain ⟨K0,D⟩:∃K0,Xk x 0=K0:=⟨_,rfl⟩
 obtain ⟨M,F⟩:∃M,Xk x 1=M:=⟨_,rfl⟩
 have k5:g.cell? ⟨L,ko,none⟩=some (.int .i64 K0):=by rw[<-D];unfold Xk;simpa using k4
 obtain ⟨b5,b6,bl,bd,bu,be⟩:=C.out.inn.kids.get (j:=1) (by omega)
 injection bd with eb1 eb2 eb3
 injection eb1 with eb1
 injection eb1 with eb1 eb4 eb5
 clear eb2 eb3 eb5
 subst eb1 eb4
 have k6:g.cell? ⟨L,ko+1,none⟩=some (.int .i64 M):=by rw[<-F];exact be
 obtain ⟨b,l⟩:∃b,Xp (Xh fs d) (Xk x 0) ns h st=b:=⟨_,rfl⟩
 have G:R=Gq (Xh fs d) x ns h st:=by rw[<-hR,Xox k]
 have bm:Hid (b.1≠0->R=b):=fun e=>by rw[G];unfold Gq;rw[l,if_neg e]
 have bn:Hid (b.1=0->R=Xp (Xh fs d) (Xk x 1) ns h b.2):=fun e=>by rw[G];unfold Gq;rw[l,if_pos e]
 have b7:b.2.1<=st.1:=by rw[<-l];exact Xbe hok d hh.le _ hv.1 st
 have bo:Hid (∀W,Below g.heap.size g W->Calls Tryz.prog 110 #[.pointer (some ⟨E,0,none⟩), .int .i64 K0, .iface ty y,X9 H caps] W fun e w'=>(∃v,e= .returned v/\Km w' b.1 v)/\FrH Z E O g w'/\St B Z E O fv fs b.2 w'):=fun W hb=>by
  rw[<-l,<-D]
  exact Qw hok ho (hx.kid 0 (by omega)) bc.out ba.out bb.out hd hd hb
 have bp:Hid (b.1=0->∀w1,FrH Z E O g w1->St B Z E O fv fs b.2 w1->∀W,Below w1.heap.size w1 W->Calls Tryz.prog 110 #[.pointer (some ⟨E,0,none⟩), .int .i64 M, .iface ty y,X9 H caps] W fun e w'=>(∃v,e= .returned v/\Km w' R.1 v)/\FrH Z E O w1 w'/\St B Z E O fv fs R.2 w'):=fun e0 w1 hf1 hs1 W hb=>by
  rw[bn.out e0,<-F]
  exact Qw hok ho (hx.kid 1 (by omega)) (bc.out.on hf1) hs1 (bb.out.reads (ba.out.reads hf1)) (by omega) (by omega) hb
 rw[hR]
 unfold Ym
 obtain ⟨KK,bf⟩:∃KK,x.kind=KK:=⟨_,rfl⟩
 rw[bf] at s p|-
 have b8:0<x.kids.length:=by omega
 have bv:(0:Int)<(x.kids.length:Int):=by omega
 have bw:1<x.kids.length:=by omega
 have bx:(1:Int)<(x.kids.length:Int):=by omega
 have b9:L<w.heap.size:=by omega
 have bq:Hid (∀Y,FrH Z E O g Y->Y.cell? ⟨w.heap.size,0,none⟩=some (.pointer (some ⟨E,0,none⟩))/\Y.cell? ⟨w.heap.size+1,5,none⟩=some (.slice (some ⟨L,ko,none⟩) x.kids.length cI)/\Y.cell? ⟨w.heap.size+2,0,none⟩=some (X9 H caps)/\Y.cell? ⟨L,ko+1,none⟩=some (.int .i64 M)):=fun Y hY=>⟨hY.cell _ _ _ (by omega) (by omega) (by intro e;cases e) ce,hY.cell _ _ _ (by omega) (by omega) (by intro e;cases e) t,hY.cell _ _ _ (by omega) (by omega) (by intro e;cases e) ch,hY.cell _ _ _ (by omega) (by omega) (by intro e;cases e) k6⟩
 obtain rfl:KK=7:=by omega
 clear hin hh hst hv hx hok ho hR bf C D F k4 be h2 k l G
 go_enter Tryz.func63,Tryz.ntmps63
 go_wp2_with fail
 (try rw[p])
 go_region_law (refine Q5 (by rfl) 110 _ _ _ _ _ _ _ _ (by rfl) (.pointer (some ⟨E,0,none⟩)) (.int .i64 K0) (.iface ty y) (X9 H caps) (by rfl) (by rfl) (by rfl) (by rfl) (Jv _ _ _ _) (bo.out _ (by first|exact Below.refl _ _|exact (Below.refl _ _).drew)) ?_;rintro e w4 ⟨⟨ev,rfl,q⟩,c,o⟩;refine ⟨_,rfl, ?_⟩)
 all_goals
  rcases q with ⟨h1,rfl⟩|⟨h1,te,xe,rfl,hr⟩
  ·have bg:=Xa (bp.out h1 w4 c o)
   obtain ⟨a1,a2,a3,a4⟩:=bq.out w4 c
   have ca:=c.size
   have cb:L<w4.heap.size:=by omega
   have br:=Xa c
   have cc:=Xa o
   clear c o h1 ce s S T V X t ch k5 k6 p
   go_wp2_with fail
   go_region_law (refine Q5 (by rfl) 110 _ _ _ _ _ _ _ _ (by rfl) (.pointer (some ⟨E,0,none⟩)) (.int .i64 M) (.iface ty y) (X9 H caps) (by rfl) (by rfl) (by rfl) (by rfl) (Jv _ _ _ _) (bg.out _ (by first|exact Below.refl _ _|exact (Below.refl _ _).drew)) ?_;rintro e w5 ⟨⟨ev,rfl,q⟩,bh,bi⟩;refine ⟨_,rfl, ?_⟩)
   all_goals
    have HF:=Xa ((z.out.trans br.out).trans bh)
    have HS:=Xa bi
    have bs:=Xa q
    clear bh bi q
    go_wp2_with fail
    go_ret
    exact ⟨⟨_,rfl,bs.out⟩,HF.out,HS.out⟩
  ·have HQ:Hid (R=b):=bm.out h1
   have HF:=Xa (z.out.trans c)
   have HS:=Xa o
   have bj:Hid (Km w4 b.1 (.iface 105 (.agg #[.int .i64 b.1, .iface te xe]))):= .inr ⟨h1,te,xe,rfl,hr⟩
   obtain ⟨C0,J⟩:∃C0,b.1=C0:=⟨_,rfl⟩
   have bk:=Xa J
   rw[J] at bj|-
   clear c o h1 hr J
   go_wp2_with fail
   go_ret
   exact ⟨⟨_,rfl,by rw[HQ.out,bk.out];exact bj.out⟩,HF.out,by rw[HQ.out];exact HS.out⟩


theorem Xy4 {B Z E O d:Nat} {fv:Value} {fs:List FN} (hok:okF fs=true) (ho:Jb B E fv fs d) {x:FN} (hx:NodeOk fs x) (k:x.kind=9) {kc kn ki v:Value} {ns:List VN} {H:FuncId} {caps:Array Value} {h:X6} {st:Xs} {w:World} (hin:FNodeIn B w x kc kn ki) (hh:HandOk B Z E O d fv fs w H caps h) (hst:St B Z E O fv fs st w) (hv:Rep w ns v) (hd:st.1<=d):
  Calls Tryz.prog 63 #[.pointer (some ⟨E,0,none⟩),Ym x kc kn ki,v,X9 H caps] w (Y6 B Z E O fv fs (evM (Xh fs d) x ns h st) w):=by
 obtain ⟨_,C,D,rfl,_⟩:=id hin.cst
 obtain ⟨_,_,F,G,rfl,_⟩:=id hin.names
 obtain ⟨_,_,J,L,rfl,_⟩:=id hin.kids
 obtain ⟨ty,y,rfl⟩:=hv.iface
 have hO:=hst.hO
 have bc:=hst.hZ
 have bd:=hst.hEZ
 have hBZ:=hst.hBZ
 have be:=hst.ev.hBE
 have g:=bx3 w (.pointer (some ⟨E,0,none⟩)) (.int .i64 x.kind) (.string x.name) (.int .i64 x.place) (.slice C x.cst.length D) (.slice F x.names.length G) (.slice J x.kids.length L) (X9 H caps)
 obtain ⟨c,f⟩:∃c,((w.alloc (.cells #[.pointer (some ⟨E,0,none⟩)] 103)).alloc (.cells #[.int .i64 x.kind, .string x.name, .int .i64 x.place, .slice C x.cst.length D, .slice F x.names.length G, .slice J x.kids.length L] 84)).alloc (.cells #[X9 H caps] 161)=c:=⟨_,rfl⟩
 rw[f] at g
 obtain ⟨b,ce,j,M,P,S,T,V,ch,bf⟩:=g
 have bg:=Xa b
 have l:Hid (FrH Z E O w c):= .of_below b hst.hZ
 have o:Hid (NodeBox B c (w.heap.size+1) x (.slice C x.cst.length D) (.slice F x.names.length G) (.slice J x.kids.length L)):=⟨j,M,P,S,T,V,hin.below (b.mono (by omega))⟩
 have p:Hid (St B Z E O fv fs st c):=hst.below b
 have X:=Xa (hv.below b)
 have Y:=Xa (hh.on l.out)
 clear b
 obtain ⟨R,hR⟩:∃R,evM (Xh fs d) x ns h st=R:=⟨_,rfl⟩
 obtain ⟨m1,m2⟩:=hx.map k
 have HC:Hid (∀W,Below c.heap.size c W->Calls Tryz.prog 113 #[.pointer (some ⟨E,0,none⟩), .agg #[.int .i64 x.kind, .string x.name, .int .i64 x.place, .slice C x.cst.length D, .slice F x.names.length G, .slice J x.kids.length L], .iface ty y, .slice none 0 0,X9 H caps] W fun e w'=>(∃v,e= .returned v/\Km w' R.1 v)/\FrH Z E O c w'/\St B Z E O fv fs R.2 w'):=fun W hb=>by
  have hf:FrH Z E O c W:= .of_below hb p.out.hZ
  rw[<-hR,Xxc k]
  have h9:=Xsb hok ho hx (by omega) (by omega) x.kids.length [] (.slice none 0 0) (.iface ty y) _ _ _ ns H caps h st W (by simp) (o.out.inn.below (hb.mono (by omega))) (Y.out.on hf) (p.out.below hb) (X.out.below hb) ⟨by simp,none,0,rfl,fun hp=>absurd hp (by simp)⟩ hd
  simp only[List.length_nil,List.drop_zero] at h9
  exact h9.mono fun e w' k=>⟨k.1,hf.trans k.2.1,k.2.2⟩
 rw[hR]
 unfold Ym
 obtain ⟨KK,q⟩:∃KK,x.kind=KK:=⟨_,rfl⟩
 rw[q] at HC j f|-
 have ba:Hid (Below c.heap.size c c.drew):=(Below.refl _ _).drew
 obtain rfl:KK=9:=by omega
 clear hin hh hst hv hx hok ho hR q o k m1 m2
 go_enter Tryz.func63,Tryz.ntmps63
 go_wp2_with fail
 (try rw[f])
 refine (HC.out _ (by first|exact Below.refl _ _|exact ba.out)).mono ?_
 rintro e w4 ⟨⟨ev,rfl,s⟩,t,z⟩
 have HF:=Xa (l.out.trans t)
 have HS:=Xa z
 have bb:=Xa s
 clear t z s
 go_wp2_with fail
 go_ret
 exact ⟨⟨_,rfl,bb.out⟩,HF.out,HS.out⟩


theorem X06 {B Z E O d:Nat} {fv:Value} {fs:List FN} (hok:okF fs=true) (ho:Jb B E fv fs d) {x:FN} (hx:NodeOk fs x) (hk:x.kind=1\/x.kind=2\/x.kind=3\/x.kind=5\/x.kind=11\/x.kind=12\/x.kind=13) {kc kn ki v:Value} {ns:List VN} {H:FuncId} {caps:Array Value} {h:X6} {st:Xs} {w:World} (hin:FNodeIn B w x kc kn ki) (hh:HandOk B Z E O d fv fs w H caps h) (hst:St B Z E O fv fs st w) (hv:Rep w ns v) (hd:st.1<=d):
  Calls Tryz.prog 63 #[.pointer (some ⟨E,0,none⟩),Ym x kc kn ki,v,X9 H caps] w (Y6 B Z E O fv fs (evM (Xh fs d) x ns h st) w):=by
 obtain ⟨_,P,S,rfl,_⟩:=id hin.cst
 obtain ⟨_,_,T,V,rfl,_⟩:=id hin.names
 obtain ⟨_,_,X,Y,rfl,_⟩:=id hin.kids
 obtain ⟨ty,y,rfl⟩:=hv.iface
 have hO:=hst.hO
 have bk:=hst.hZ
 have bl:=hst.hEZ
 have hBZ:=hst.hBZ
 have bm:=hst.ev.hBE
 have C:=bx3 w (.pointer (some ⟨E,0,none⟩)) (.int .i64 x.kind) (.string x.name) (.int .i64 x.place) (.slice P x.cst.length S) (.slice T x.names.length V) (.slice X x.kids.length Y) (X9 H caps)
 obtain ⟨c,q⟩:∃c,((w.alloc (.cells #[.pointer (some ⟨E,0,none⟩)] 103)).alloc (.cells #[.int .i64 x.kind, .string x.name, .int .i64 x.place, .slice P x.cst.length S, .slice T x.names.length V, .slice X x.kids.length Y] 84)).alloc (.cells #[X9 H caps] 161)=c:=⟨_,rfl⟩
 rw[q] at C
 obtain ⟨b,ce,D,ba,bb,bc,bd,be,ch,bn⟩:=C
 have bo:=Xa b
 have s:Hid (FrH Z E O w c):= .of_below b hst.hZ
 have F:Hid (NodeBox B c (w.heap.size+1) x (.slice P x.cst.length S) (.slice T x.names.length V) (.slice X x.kids.length Y)):=⟨D,ba,bb,bc,bd,be,hin.below (b.mono (by omega))⟩
 have G:Hid (St B Z E O fv fs st c):=hst.below b
 have bf:=Xa (hv.below b)
 have bg:=Xa (hh.on s.out)
 clear b
 obtain ⟨R,hR⟩:∃R,evM (Xh fs d) x ns h st=R:=⟨_,rfl⟩
 obtain ⟨r,hr⟩:∃r,Yp x ns=r:=⟨_,rfl⟩
 have bh:Hid (R=Yk r h st):=by rw[Hid,<-hR,Xbu hk,hr]
 have HC:Hid (Calls Tryz.prog 119 #[.agg #[.int .i64 x.kind, .string x.name, .int .i64 x.place, .slice P x.cst.length S, .slice T x.names.length V, .slice X x.kids.length Y], .iface ty y] c (Jd r c)):=by
  rw[<-hr]
  exact X05 hx B _ _ _ _ ns c F.out.inn (by omega) bf.out G.out.ev.errs.now.two hk
 have J:Hid (∀w1 u v,Below c.heap.size c w1->((r.1=0/\v= .nilIface/\Rep w1 r.2 u)\/(r.1≠0/\u= .nilIface/\J6 w1 r.1 v))->Calls Tryz.prog 120 #[u,v,X9 H caps] w1 (fun e w'=>(∃v,e= .returned v/\Km w' R.1 v)/\FrH Z E O c w'/\St B Z E O fv fs R.2 w')):=fun w1 u v hb hrr=>by
  rw[bh.out]
  exact Vh bg.out G.out hd hb hrr
 rw[hR]
 unfold Ym
 obtain ⟨o,t⟩:∃o,x.kind=o:=⟨_,rfl⟩
 rw[t] at HC D q|-
 have bi:o=1\/o=2\/o=3\/o=5\/o=11\/o=12\/o=13:=by rw[<-t];exact hk
 have bj:w.heap.size+2<c.heap.size:=by omega
 clear hin hh hst hv hx hok ho hR t F hr hk
 rcases bi with rfl|rfl|rfl|rfl|rfl|rfl|rfl
 all_goals
  go_enter Tryz.func63,Tryz.ntmps63
  go_wp2_with fail
  (try rw[q])
  refine HC.out.mono ?_
  rintro e w4 ⟨L,f⟩
  have c4:=(Xc f bj).trans ch
  rcases L with ⟨h0,u,rfl,hrep⟩|⟨h0,ve,rfl,hrf⟩
  ·have p:=Xa (J.out w4 u .nilIface f (.inl ⟨h0,rfl,hrep⟩))
   obtain ⟨tu,yu,rfl⟩:=hrep.iface
   clear hrep h0 f ch
   go_wp2_with fail
   refine p.out.mono ?_
   rintro e w5 ⟨⟨ev,rfl,g⟩,j,l⟩
   have HF:=Xa (s.out.trans j)
   have HS:=Xa l
   have z:=Xa g
   clear j l g
   go_wp2_with fail
   go_ret
   exact ⟨⟨_,rfl,z.out⟩,HF.out,HS.out⟩
  ·have p:=Xa (J.out w4 .nilIface ve f (.inr ⟨h0,rfl,hrf⟩))
   obtain ⟨te,xe,rfl,_⟩:=hrf
   obtain ⟨C0,M⟩:∃C0,r.1=C0:=⟨_,rfl⟩
   rw[M] at p|-
   clear h0 f ch M
   go_wp2_with fail
   refine p.out.mono ?_
   rintro e w5 ⟨⟨ev,rfl,g⟩,j,l⟩
   have HF:=Xa (s.out.trans j)
   have HS:=Xa l
   have z:=Xa g
   clear j l g
   go_wp2_with fail
   go_ret
   exact ⟨⟨_,rfl,z.out⟩,HF.out,HS.out⟩


theorem X2q {B E d:Nat} {fv:Value} {fs:List FN} (hok:okF fs=true) (ho:Jb B E fv fs d):Xnv B E fv fs d:=by
 intro Z O n x s t y v z H p h C w q o b g c j l
 have f:NodeOk fs x:=by rw[<-o];exact Xkf hok q
 have D:=f.range
 by_cases k14:x.kind=14
 ·exact Xtg hok ho f k14 b g c j l
 by_cases k4:x.kind=4
 ·exact Xv2 hok ho f k4 b g c j l
 by_cases k6:x.kind=6
 ·exact Xv3 hok ho f k6 b g c j l
 by_cases k7:x.kind=7
 ·exact Xt1 hok ho f k7 b g c j l
 by_cases k8:x.kind=8
 ·exact Wm hok ho f (by omega) b g c j l
 by_cases k9:x.kind=9
 ·exact Xy4 hok ho f k9 b g c j l
 by_cases k10:x.kind=10
 ·exact Wm hok ho f (by omega) b g c j l
 by_cases k15:15<=x.kind/\x.kind<=20
 ·exact Wm hok ho f (by omega) b g c j l
 by_cases k21:x.kind=21
 ·exact Wm hok ho f (by omega) b g c j l
 by_cases k22:x.kind=22
 ·exact Wm hok ho f (by omega) b g c j l
 by_cases k23:x.kind=23
 ·exact Wm hok ho f (by omega) b g c j l
 ·exact X06 hok ho f (by omega) b g c j l
theorem Xnf {B E:Nat} {fv:Value} {fs:List FN} (hok:okF fs=true):∀d,d<=1000000->Jb B E fv fs d:=by
 intro d
 induction d with
 |zero=>intro _;exact Xl2 B E fv fs
 |succ d ih=>intro b;exact Xq3 (X2q hok (ih (by omega))) (by omega)


def U9 (fs:List FN) (vs:List VN) (fuel:Int):Bool:=okB vs&&okF fs&&decide (0<=fuel)&&decide (fuel<=2000)
def Ki (fs:List FN) (vs:List VN) (fuel:Int):OcR:=Xh fs 2000 (fs.length-1) vs fuel.toNat
def Xa4 (fs:List FN) (vs:List VN) (fuel:Int):Int:=if U9 fs vs fuel=true then (Ki fs vs fuel).c else 1
def J5 (fs:List FN) (vs:List VN) (fuel:Int):List (List VN):=if U9 fs vs fuel=true/\(Ki fs vs fuel).c=0 then (Ki fs vs fuel).l else []
theorem Xpq {fs:List FN} {vs:List VN} {fuel:Int} (h:U9 fs vs fuel=false):Xa4 fs vs fuel=1/\J5 fs vs fuel= []:=by
 unfold Xa4 J5
 rw[h]
 exact ⟨if_neg (by simp),if_neg (by simp)⟩
theorem Xfn {fs:List FN} {vs:List VN} {fuel:Int}:(J5 fs vs fuel).length<=40:=by
 unfold J5
 split
 ·rename_i h
  have b:=h.1
  unfold U9 at b
  simp only[Bool.and_eq_true] at b
  exact (Ze b.1.1.2 2000).few _ _ _ b.1.1.1
 ·simp
theorem X1w {fs:List FN} {vs:List VN} {fuel:Int}:∀x∈J5 fs vs fuel,okB x=true:=by
 unfold J5
 split
 ·rename_i h
  have b:=h.1
  unfold U9 at b
  simp only[Bool.and_eq_true] at b
  exact (Ze b.1.1.2 2000).ok _ _ _ b.1.1.1
 ·simp
theorem Xyr {w:World} {vs:List VN} {x:Value} {lo:Nat} (hlo:lo<=w.heap.size) (ok:okB vs=true) (h:ValIs lo w.heap.size w vs vs.length (vs.length-1) x):Rep w vs x:=by
 obtain ⟨b,c,_,d⟩:=Xm ok
 exact Rep.of (ValIs.tree hlo c d b.2 (by omega) h) (Ku ok) ok
theorem Xpr (fv v:Value) (fs:List FN) (vs:List VN) (fuel:Int) (w:World) (hf:FNodesAt w.heap.size w fv fs) (hv:NodesAt w.heap.size w v vs) (hE:Errs4 w) (h1: -9223372036854775808<=fuel) (h2:fuel<=9223372036854775807):
  Calls Tryz.prog 7 #[fv,v, .int .i64 fuel] w fun e w'=>∃r base rs KV IV lo,e= .returned (.tuple #[r, .int .i64 (Xa4 fs vs fuel)])/\w.heap.size<=base/\Rows2 base w' r (J5 fs vs fuel).length (Xn (J5 fs vs fuel)) rs KV IV lo/\Below w.heap.size w w':=by
 have HF:=Xa hf
 have HV:=Xa hv
 have HE:=Xa hE
 obtain ⟨_,a,b9,rfl,_⟩:=hv
 obtain ⟨_,af,d,rfl,_⟩:=hf
 obtain ⟨C,Z⟩:∃C,Xa4 fs vs fuel=C:=⟨_,rfl⟩
 obtain ⟨L,hL⟩:∃L,J5 fs vs fuel=L:=⟨_,rfl⟩
 have P:Hid (U9 fs vs fuel=false->C=1/\L= []):=fun h=>by rw[<-Z,<-hL];exact Xpq h
 have j:Hid (U9 fs vs fuel=(okB vs&&okF fs&&decide (0<=fuel)&&decide (fuel<=2000))):=rfl
 have ba:Hid (U9 fs vs fuel=true->C=(Ki fs vs fuel).c/\((Ki fs vs fuel).c=0->L=(Ki fs vs fuel).l)/\((Ki fs vs fuel).c≠0->L= [])):=fun h=>by
  rw[<-Z,<-hL]
  unfold Xa4 J5
  rw[if_pos h]
  exact ⟨rfl,fun e=>by rw[if_pos ⟨h,e⟩],fun e=>by rw[if_neg (fun k=>e k.2)]⟩
 have bb:L.length<=40:=by rw[<-hL];exact Xfn
 rw[Z,hL]
 obtain ⟨i0,bm,bn,bo,bp⟩:=info_parts J8
 go_enter Tryz.func7,Tryz.ntmps7
 go_wp2_with fail
 cases ok1:okB vs
 ·refine (Xu5 w.heap.size _ vs _ HV.out (Nat.le_refl _) ok1).mono ?_
  rintro e w1 ⟨rfl,p⟩
  obtain ⟨S,T⟩:=P.out (by rw[j.out,ok1];rfl)
  subst S T
  have z1:=p.size
  go_wp2_with fail
  go_ret2
  exact ⟨_,w1.heap.size,_,_,_,_,rfl,z1,Rows2.start (World.ownsRow_nil _ _ _ _) (Nat.le_refl _) _,p⟩
 ·refine (Xrq w.heap.size _ vs _ HV.out (Nat.le_refl _) ok1).mono ?_
  rintro e w1 ⟨ca,t,x,rfl,cb,q,bq,p⟩
  have br:=Xa (Xyr (by omega) ok1 bq)
  have bc:=Xa p
  have z1:=p.size
  go_wp2_with fail
  refine (Xg5 w.heap.size _ fs w1 (HF.out.below bc.out) z1).mono ?_
  rintro e f ⟨rfl,bd⟩
  have bs:=Xa (br.out.below bd)
  have g:=Xa (bc.out.trans (bd.mono z1))
  have V:=g.out.size
  cases okf:okF fs
  ·obtain ⟨S,T⟩:=P.out (by rw[j.out,ok1,okf];rfl)
   subst S T
   go_wp2_with fail
   go_ret2
   exact ⟨_,f.heap.size,_,_,_,_,rfl,V,Rows2.start (World.ownsRow_nil _ _ _ _) (Nat.le_refl _) _,g.out⟩
  ·by_cases f1 : fuel < 0
   ·obtain ⟨S,T⟩:=P.out (by rw[j.out,decide_eq_false (show ¬0<=fuel by omega)];simp)
    subst S T
    go_wp2_with fail
    go_ret2
    exact ⟨_,f.heap.size,_,_,_,_,rfl,V,Rows2.start (World.ownsRow_nil _ _ _ _) (Nat.le_refl _) _,g.out⟩
   ·by_cases f2:2000<fuel
    ·obtain ⟨S,T⟩:=P.out (by rw[j.out,decide_eq_false (show ¬fuel<=2000 by omega)];simp)
     subst S T
     go_wp2_with fail
     go_ret2
     exact ⟨_,f.heap.size,_,_,_,_,rfl,V,Rows2.start (World.ownsRow_nil _ _ _ _) (Nat.le_refl _) _,g.out⟩
    ·obtain ⟨hc, be, q⟩ := ba.out (by rw [j.out, ok1, okf, decide_eq_true (show 0 <= fuel by omega), decide_eq_true (show fuel <= 2000 by omega)]; rfl)
     obtain ⟨k,rfl⟩:∃k:Nat,fuel=(k:Int):=⟨fuel.toNat,by omega⟩
     have bt : 1 <= fs.length /\ fs.length <= 40 := by
          have:=okf
          unfold okF U0 at this
          simp only[Bool.and_eq_true,decide_eq_true_eq] at this
          exact this.1.1
     have X : Hid (∀ W, Below f.heap.size f W -> W.heap[f.heap.size]? = some (.cells #[.slice af fs.length d, .int .i64 (k : Int)] 57 (0, 0)) -> Calls Tryz.prog 29 #[.pointer (some ⟨f.heap.size, 0, none⟩), .int .i64 ((fs.length : Int) - 1), .iface t x] W (Xiw w.heap.size f.heap.size (.slice af fs.length d) fs (Ki fs vs (k : Int)) W)) := fun W hb hblk => by
          have hz:=g.out.trans (hb.mono V)
          have bu:EvB w.heap.size f.heap.size (.slice af fs.length d) fs k W:=⟨hblk,HF.out.below hz,V,⟨w,HE.out,rfl,hz⟩⟩
          have bv:=Xnf (fv:= .slice af fs.length d) (B:=w.heap.size) (E:=f.heap.size) okf 2000 (by omega)
          have:=bv (fs.length-1) (.iface t x) vs k W (by omega) bu (bs.out.below hb) (by omega)
          have e1:(((fs.length-1:Nat)):Int)=(fs.length:Int)-1:=by omega
          rw[e1] at this
          exact this
     obtain ⟨r,hr⟩:∃r,Ki fs vs (k:Int)=r:=⟨_,rfl⟩
     rw[hr] at X hc be q
     obtain ⟨N,hN⟩:∃N,fs.length=N:=⟨_,rfl⟩
     rw[hN] at X bt|-
     subst hc
     have bw:=Xa be
     have bx:=Xa q
     have bf:Below f.heap.size f (f.alloc (.cells #[.slice af N d, .int .i64 (k:Int)] 57)):=(Below.refl _ _).alloc (Nat.le_refl _) _
     have HC:=Xa (X.out _ bf (heap_alloc_new f _))
     have bg:=Xa bf
     go_wp2_with fail
     refine HC.out.mono ?_
     rintro e s ⟨it,ev,rfl,bh,hb,he⟩
     have Y:Hid (Below w.heap.size w s):=(g.out.trans (bg.out.mono V)).trans (hb.below V (by have:=bg.out.size;omega))
     have z3:=Y.out.size
     have bz:=Xa he.errs.now.two.errs.et
     rcases bh with ⟨h1,rfl,hit⟩|⟨h1,rfl,te,xe,rfl,hrs⟩
     ·have b0 := Xa (bw.out h1)
      obtain ⟨h0,ai,ci,rfl,hx⟩:=hit
      rw[<-b0.out] at hx|-
      have HX:=Xa hx
      have H1:=Xa h1
      obtain ⟨M,hM⟩:∃M,L.length=M:=⟨_,rfl⟩
      have HM:=Xa hM
      rw[hM] at HX bb|-
      have b1:=Xa (Rows2.start (base:=s.heap.size) (World.ownsRow_nil _ _ _ _) (Nat.le_refl _) (Xn L))
      go_wp2_with fail
      go_loopw [13,53] (fun o i wr=>∃(k:Nat) (rs:Nat->Value) (KV IV:Nat->Nat->Value) (lo:Nat->Nat),k<=M/\i= .int .i64 k/\Rows2 s.heap.size wr o k (Xn L) rs KV IV lo/\Below s.heap.size s wr) (fun _ i _=>M-(intOf i).toNat)
      case atStart=>exact ⟨0,_,_,_,_,Nat.zero_le _,rfl,b1.out,Below.refl _ _⟩
      case round=>
       obtain ⟨k,rs,KV,IV,lo,hk,rfl,y,z⟩:=hrel
       have HR:=Xa y
       have b2:=Xa z
       have zs:=z.size
       obtain ⟨ao,co,eo⟩:=Xg y.row
       subst eo
       by_cases hlt:k<M
       ·obtain ⟨b,rfl,hc⟩:=HX.out (by omega)
        obtain ⟨tk,xk,bi,D⟩:=hc k hlt
        have b8:wr.cell? ⟨b,k,none⟩=some (.iface tk xk):=(Xc z (X7 bi)).trans bi
        have HT:=Xa (TreeAt.keep (fun c hcc=>z.block c hcc) (Nat.le_refl _) D.2)
        have HL:=Xa (Xhe D.1)
        have HZ:=Xa (Xm D.1).1.2
        go_wp2_with fail
        refine (Xed s.heap.size wr.heap.size (by omega) 80 (Xaa (Xn L k)) (.iface tk xk) (.slice none 0 0) [] (fun _=>undef) (fun _=>undef) wr (Nest.nil _ _ _ _) HT.out (Nat.le_refl _) (by rw[List.length_nil,HL.out];have:=HZ.out;omega)).mono ?_
        rintro e w4 ⟨r4,K,I,rfl,bj⟩
        have bk:Nest wr.heap.size w4 r4 (Xn L k) K I:=by have:=bj.1;rw[List.nil_append,List.length_nil,HL.out] at this;exact this
        have F:Below wr.heap.size wr w4:=(Below.refl _ _).grown bj.2.1 (Nat.le_refl _) (fun k hk=>by simp[Value.ownBlock] at hk)
        have b3:=Xa bk
        obtain ⟨ar,cr,er⟩:=Xg bk.row
        obtain ⟨Lk,b4⟩:∃Lk,(Xn L k).length=Lk:=⟨_,rfl⟩
        rw[b4] at er
        subst er
        have G:=Xa F
        have z4:=F.size
        have R:=Xa (HR.out.below F).row
        go_wp2_with (at_builtin;refine wpList_append_own_at _ rfl _ _ 28 rfl s.heap.size 25 i0 (.slice none 0 0) 1 24 Tryz.underlying28 bm bn bo bp rfl (by decide) _ _ _ rfl (R.out.alloc _) ⟨w4.heap.size,0,none⟩ 1 1 [.slice ar Lk cr] rfl rfl ?c1 ?c2 ?c3 ?c4 ?c5 ?_)
        case c1=>exact cell_one_new _ _ _
        case c2=>intro u hu;simp at hu;subst hu;rfl
        case c3=>unfold maxLen;omega
        case c4=>omega
        case c5=>simp;omega
        intro v' w5 bl J _ _
        have b5:=Xa (HR.out.snoc G.out b3.out bl J)
        have b6:Hid (Below s.heap.size s w5):=((b2.out.trans (G.out.mono zs)).alloc (by omega) _).grown J (by simp;omega) (fun x hx=>(R.out.lt x hx).1)
        go_wp2_with fail
        go_roundw
        case rel=>exact ⟨k+1,_,_,_,_,by omega,by go_num,b5.out,b6.out⟩
        case measure=>simp[intOf];omega
       ·obtain rfl:k=M:=by omega
        go_wp2_with fail
        go_ret2
        exact ⟨.slice ao k co,s.heap.size,_,_,_,_,by rw[H1.out];rfl,z3,by rw[HM.out];exact HR.out,Y.out.trans (z.mono z3)⟩
     ·obtain rfl:L= []:=bx.out h1
      obtain ⟨C,Z⟩:∃C,r.c=C:=⟨_,rfl⟩
      have b7:=Xa Z
      rw[Z]
      go_wp2_with fail
      refine (Xuj C te xe s bz.out).mono ?_
      rintro e w4 ⟨rfl,F⟩
      have G:=Xa (Y.out.trans (F.mono z3))
      have z4:=G.out.size
      go_wp2_with fail
      go_ret2
      exact ⟨.slice none 0 0,w4.heap.size,_,_,_,_,by rw[b7.out];rfl,z4,Rows2.start (World.ownsRow_nil _ _ _ _) (Nat.le_refl _) _,G.out⟩
end Go.Proofs.YtdjddneidbddpaaGreatDoor
