import Derived.Test.YtdjddneidbddpaaGreatDoorEvY
import Derived.Laws.EntriesVeiled
import Derived.Deep.RegionHeld3
import Derived.Test.YtdjddneidbddpaaGreatDoorEvV
import Derived.Test.YtdjddneidbddpaaGreatDoorSeM
import Derived.Test.YtdjddneidbddpaaGreatDoorSeF
import Derived.Test.YtdjddneidbddpaaGreatDoorEvZ
import Derived.Test.YtdjddneidbddpaaGreatDoorIParts
import Derived.Test.YtdjddneidbddpaaGreatDoorFSpc3
namespace Go.Proofs.YtdjddneidbddpaaGreatDoor
set_option linter.unusedSectionVars false
set_option maxHeartbeats 6400000
open Go.RowKit
set_option linter.unusedSimpArgs false
set_option linter.unusedVariables false
set_option maxRecDepth 100000 in
theorem Xkn {B Z E O d:Nat} {fv:Value} {fs:List FN} (hok:okF fs=true) (ho:Qr B E fv fs d) {x:FN} (hx:NodeOk fs x) (k1:15≤x.kind) (k2:x.kind≤20) {kc kn ki v:Value} {ns:List VN} {H:FuncId} {caps:Array Value} {h:Yc} {st:Xt} {w:World} (hin:FNodeIn B w x kc kn ki) (hh:HandOk B Z E O d fv fs w H caps h) (hst:St B Z E O fv fs st w) (hv:Rep w ns v) (hd:st.1≤d):
  Calls Tryz.prog 115 #[.pointer (some ⟨E,0,none⟩),Ya x kc kn ki,v,X5 H caps] w (Yz B Z E O fv fs (Xq (Xf fs d) (Xi x 0) ns (fun a=>Xq (Xf fs d) (Xi x 1) ns (fun b=>Xv (Xs x.kind a b) h)) st) w):=by
 have HN:=Xa hin
 have HH:=Xa hh
 have HST:=Xa hst
 have HV:=Xa hv
 have HX:=Xa hx
 obtain ⟨_,aC,cC,rfl,_⟩:=hin.cst
 obtain ⟨_,_,aK,cK,rfl,_⟩:=hin.names
 obtain ⟨_,_,aI,cI,rfl,_⟩:=hin.kids
 obtain ⟨ty,y,rfl⟩:=hv.iface
 have hO:=hst.hO
 have hZw:=hst.hZ
 have hEZ:=hst.hEZ
 have hBZ:=hst.hBZ
 have hBE:=hst.ev.hBE
 obtain ⟨W3,hW3⟩:∃W3,(((w.alloc (.cells #[.pointer (some ⟨E,0,none⟩)] 103)).alloc (.cells #[.int .i64 x.kind, .string x.name, .int .i64 x.place, .slice aC x.cst.length cC, .slice aK x.names.length cK, .slice aI x.kids.length cI] 84)).alloc (.cells #[.iface ty y] 52)).alloc (.cells #[.func (.func H) #[] caps] 161)=W3:=⟨_,rfl⟩
 have HB3:Hid (Below w.heap.size w W3):=by rw[Hid,←hW3];exact (((((Below.refl w.heap.size w).alloc (Nat.le_refl _) _).alloc (by simp<;>omega) _).alloc (by simp<;>omega) _).alloc (by simp<;>omega) _)
 have HF3:Hid (FrH Z E O w W3):= .of_below HB3.out hst.hZ
 have ce:W3.cell? ⟨w.heap.size,0,none⟩=some (.pointer (some ⟨E,0,none⟩)):=by rw[←hW3];rw[World.cell?_alloc_past _ _ _ (by simp<;>omega)];rw[World.cell?_alloc_past _ _ _ (by simp<;>omega)];rw[World.cell?_alloc_past _ _ _ (by simp<;>omega)];rw[World.cell?_alloc_at _ _ _ _ (by simp)];rfl
 have cn0:W3.cell? ⟨w.heap.size+1,0,none⟩=some (.int .i64 x.kind):=by rw[←hW3];rw[World.cell?_alloc_past _ _ _ (by simp<;>omega)];rw[World.cell?_alloc_past _ _ _ (by simp<;>omega)];rw[World.cell?_alloc_at _ _ _ _ (by simp)];rfl
 have cn1:W3.cell? ⟨w.heap.size+1,1,none⟩=some (.string x.name):=by rw[←hW3];rw[World.cell?_alloc_past _ _ _ (by simp<;>omega)];rw[World.cell?_alloc_past _ _ _ (by simp<;>omega)];rw[World.cell?_alloc_at _ _ _ _ (by simp)];rfl
 have cn2:W3.cell? ⟨w.heap.size+1,2,none⟩=some (.int .i64 x.place):=by rw[←hW3];rw[World.cell?_alloc_past _ _ _ (by simp<;>omega)];rw[World.cell?_alloc_past _ _ _ (by simp<;>omega)];rw[World.cell?_alloc_at _ _ _ _ (by simp)];rfl
 have cn3:W3.cell? ⟨w.heap.size+1,3,none⟩=some (.slice aC x.cst.length cC):=by rw[←hW3];rw[World.cell?_alloc_past _ _ _ (by simp<;>omega)];rw[World.cell?_alloc_past _ _ _ (by simp<;>omega)];rw[World.cell?_alloc_at _ _ _ _ (by simp)];rfl
 have cn4:W3.cell? ⟨w.heap.size+1,4,none⟩=some (.slice aK x.names.length cK):=by rw[←hW3];rw[World.cell?_alloc_past _ _ _ (by simp<;>omega)];rw[World.cell?_alloc_past _ _ _ (by simp<;>omega)];rw[World.cell?_alloc_at _ _ _ _ (by simp)];rfl
 have cn5:W3.cell? ⟨w.heap.size+1,5,none⟩=some (.slice aI x.kids.length cI):=by rw[←hW3];rw[World.cell?_alloc_past _ _ _ (by simp<;>omega)];rw[World.cell?_alloc_past _ _ _ (by simp<;>omega)];rw[World.cell?_alloc_at _ _ _ _ (by simp)];rfl
 have HNB:Hid (NodeBox B W3 (w.heap.size+1) x (.slice aC x.cst.length cC) (.slice aK x.names.length cK) (.slice aI x.kids.length cI)):=⟨cn0,cn1,cn2,cn3,cn4,cn5,hin.below (HB3.out.mono (by omega))⟩
 have cv:W3.cell? ⟨w.heap.size+2,0,none⟩=some (.iface ty y):=by rw[←hW3];rw[World.cell?_alloc_past _ _ _ (by simp<;>omega)];rw[World.cell?_alloc_at _ _ _ _ (by simp)];rfl
 have ch:W3.cell? ⟨w.heap.size+3,0,none⟩=some (.func (.func H) #[] caps):=by rw[←hW3];rw[World.cell?_alloc_at _ _ _ _ (by simp)];rfl
 have HS3:Hid (St B Z E O fv fs st W3):=hst.below HB3.out
 have HV3:=Xa (HV.out.below HB3.out)
 have HH3:=Xa (hh.on HF3.out)
 have hz3:W3.heap.size=w.heap.size+4:=by rw[←hW3];simp
 have h2:=hx.two (.inr (.inr ⟨k1,by omega⟩))
 obtain ⟨kb,ko,kcap,ek,hkb,k4⟩:=HNB.out.inn.kids.get (j:=0) (by omega)
 injection ek with ek1 ek2 ek3
 subst ek1 ek3
 obtain ⟨R,hR⟩:∃R,Xq (Xf fs d) (Xi x 0) ns (fun a=>Xq (Xf fs d) (Xi x 1) ns (fun b=>Xv (Xs x.kind a b) h)) st=R:=⟨_,rfl⟩
 have HM:=Xa (Xo2 x.kind k1 k2 Z E O W3 (by omega) (by omega))
 obtain ⟨K1,hK1⟩:∃K1,Xi x 0=K1:=⟨_,rfl⟩
 have HALL:Hid (∀w5 F mc,MerOk Z E O w5 F mc x.kind→Below W3.heap.size W3 w5→∀W,Below (w5.alloc (.cells #[.func (.func F) #[] mc] 197)).heap.size (w5.alloc (.cells #[.func (.func F) #[] mc] 197)) W→Calls Tryz.prog 110 #[.pointer (some ⟨E,0,none⟩), .int .i64 K1, .iface ty y,X5 148 #[.pointer (some ⟨w.heap.size,0,none⟩), .pointer (some ⟨w.heap.size+1,0,none⟩), .pointer (some ⟨w.heap.size+2,0,none⟩), .pointer (some ⟨w5.heap.size,0,none⟩), .pointer (some ⟨w.heap.size+3,0,none⟩)]] W fun e w'=>(∃v,e= .returned v∧Jk w' R.1 v)∧FrH Z E O W3 w'∧St B Z E O fv fs R.2 w'):=fun w5 F mc hm hb5 W hbW=>by
  have hs5:=hb5.size
  have hb6:Below W3.heap.size W3 (w5.alloc (.cells #[.func (.func F) #[] mc] 197)):=hb5.alloc hs5 _
  have hal:Below w5.heap.size w5 (w5.alloc (.cells #[.func (.func F) #[] mc] 197)):=(Below.refl _ _).alloc (Nat.le_refl _) _
  have hf6:FrH Z E O W3 (w5.alloc (.cells #[.func (.func F) #[] mc] 197)):= .of_below hb6 (by omega)
  have hS6:=HS3.out.below hb6
  have hm6:=hm.on (.of_below hal (by omega))
  have hd6:=Xob hok ho hx h2 (HH3.out.on hf6) (Nat.le_refl _) hBE (by omega) hm6 (HV3.out.below hb6) (fun w' hf=>hS6.reads hf) (by simp;omega) (by simp;omega) (by simp;omega) (eb:=w.heap.size) (nb:=w.heap.size+1) (vb:=w.heap.size+2) (mb:=w5.heap.size) (hb:=w.heap.size+3) ⟨by omega,by omega⟩ ⟨by omega,by omega⟩ ⟨by omega,by omega⟩ ⟨by omega,by omega⟩ ⟨by omega,by omega⟩ ((Xc hb6 (by omega)).trans ce) (HNB.out.on hf6 (by omega) (by omega) hBE (by omega)) ((Xc hb6 (by omega)).trans cv) (by simp) ((Xc hb6 (by omega)).trans ch)
  rw[←hR,←hK1]
  exact (Q5 hok ho (hx.kid 0 (by omega)) hd6 hS6 (HV3.out.below hb6) hd hd hbW).mono fun e w' k=>⟨k.1,hf6.trans k.2.1,k.2.2⟩
 rw[hR]
 have k5:W3.cell? ⟨kb,ko,none⟩=some (.int .i64 K1):=by rw[←hK1];unfold Xi;simpa using k4
 have hlp:0<x.kids.length:=by omega
 have hlp2:(0:Int)<(x.kids.length:Int):=by omega
 have lkb:kb<w.heap.size:=by omega
 clear hin hh hst hv hx hok ho hR hK1 k4 h2
 go_enter Tryz.func115,Tryz.ntmps115
 go_wp2_with fail
 refine HM.out.mono ?_
 rintro e w5 ⟨F,mc,rfl,hm,hb5⟩
 have HB5:=Xa hb5
 have HEA:=Xa (HALL.out w5 F mc hm hb5)
 have d1:=(Xc hb5 (by omega)).trans ce
 have d2:=(Xc hb5 (by omega)).trans cn5
 have d3:=(Xc hb5 (by omega)).trans cv
 have d4:=(Xc hb5 (by omega)).trans ch
 have d5:=(Xc hb5 (by omega)).trans k5
 have d6:w.heap.size+3<w5.heap.size:=by have:=hb5.size;omega
 have d7:w.heap.size<w5.heap.size:=by omega
 have d8:w.heap.size+1<w5.heap.size:=by omega
 have d9:w.heap.size+1+1<w5.heap.size:=by omega
 have d10:w.heap.size+1+1+1<w5.heap.size:=by omega
 have d11:kb<w5.heap.size:=by omega
 clear hm hb5 ce cn0 cn1 cn2 cn3 cn4 cn5 cv ch k5
 go_wp2_with fail
 go_region_law (refine Jg (by rfl) 110 _ _ _ _ _ _ _ _ (by rfl) (.pointer (some ⟨E,0,none⟩)) (.int .i64 K1) (.iface ty y) (X5 148 #[.pointer (some ⟨w.heap.size,0,none⟩), .pointer (some ⟨w.heap.size+1,0,none⟩), .pointer (some ⟨w.heap.size+2,0,none⟩), .pointer (some ⟨w5.heap.size,0,none⟩), .pointer (some ⟨w.heap.size+3,0,none⟩)]) (by rfl) (by rfl) (by rfl) (by rfl) (J4 _ _ _ _) (HEA.out _ (by first|exact Below.refl _ _|exact (Below.refl _ _).drew)) ?_;rintro e w4 ⟨⟨ev,rfl,hev⟩,hf3,hs3⟩;refine ⟨_,rfl, ?_⟩)
 all_goals
  have HF:=Xa (HF3.out.trans hf3)
  have HS:=Xa hs3
  have HEV:=Xa hev
  clear hf3 hs3 hev
  go_wp2_with fail
  go_ret
  exact ⟨⟨_,rfl,HEV.out⟩,HF.out,HS.out⟩

set_option maxRecDepth 100000 in
theorem Xo5 {B Z E O d:Nat} {fv:Value} {fs:List FN} (hok:okF fs=true) (ho:Qr B E fv fs d) {x:FN} (hx:NodeOk fs x) (k:x.kind=8) {kc kn ki v:Value} {ns:List VN} {H:FuncId} {caps:Array Value} {h:Yc} {st:Xt} {w:World} (hin:FNodeIn B w x kc kn ki) (hh:HandOk B Z E O d fv fs w H caps h) (hst:St B Z E O fv fs st w) (hv:Rep w ns v) (hd:st.1≤d):
  Calls Tryz.prog 112 #[.pointer (some ⟨E,0,none⟩),Ya x kc kn ki,v,X5 H caps] w (Yz B Z E O fv fs (Kk (Xf fs d) x ns h st) w):=by
 have HN:=Xa hin
 have HH:=Xa hh
 have HST:=Xa hst
 have HV:=Xa hv
 have HX:=Xa hx
 obtain ⟨_,aC,cC,rfl,_⟩:=hin.cst
 obtain ⟨_,_,aK,cK,rfl,_⟩:=hin.names
 obtain ⟨_,_,aI,cI,rfl,_⟩:=hin.kids
 obtain ⟨ty,y,rfl⟩:=hv.iface
 have hO:=hst.hO
 have hZw:=hst.hZ
 have hEZ:=hst.hEZ
 have hBZ:=hst.hBZ
 have hBE:=hst.ev.hBE
 obtain ⟨W3,hW3⟩:∃W3,w.alloc (.cells #[.int .i64 x.kind, .string x.name, .int .i64 x.place, .slice aC x.cst.length cC, .slice aK x.names.length cK, .slice aI x.kids.length cI] 84)=W3:=⟨_,rfl⟩
 have HB3:Hid (Below w.heap.size w W3):=by rw[Hid,←hW3];exact ((Below.refl w.heap.size w).alloc (Nat.le_refl _) _)
 have HF3:Hid (FrH Z E O w W3):= .of_below HB3.out hst.hZ
 have cn0:W3.cell? ⟨w.heap.size,0,none⟩=some (.int .i64 x.kind):=by rw[←hW3];rw[World.cell?_alloc_at _ _ _ _ (by simp)];rfl
 have cn1:W3.cell? ⟨w.heap.size,1,none⟩=some (.string x.name):=by rw[←hW3];rw[World.cell?_alloc_at _ _ _ _ (by simp)];rfl
 have cn2:W3.cell? ⟨w.heap.size,2,none⟩=some (.int .i64 x.place):=by rw[←hW3];rw[World.cell?_alloc_at _ _ _ _ (by simp)];rfl
 have cn3:W3.cell? ⟨w.heap.size,3,none⟩=some (.slice aC x.cst.length cC):=by rw[←hW3];rw[World.cell?_alloc_at _ _ _ _ (by simp)];rfl
 have cn4:W3.cell? ⟨w.heap.size,4,none⟩=some (.slice aK x.names.length cK):=by rw[←hW3];rw[World.cell?_alloc_at _ _ _ _ (by simp)];rfl
 have cn5:W3.cell? ⟨w.heap.size,5,none⟩=some (.slice aI x.kids.length cI):=by rw[←hW3];rw[World.cell?_alloc_at _ _ _ _ (by simp)];rfl
 have HNB:Hid (NodeBox B W3 (w.heap.size) x (.slice aC x.cst.length cC) (.slice aK x.names.length cK) (.slice aI x.kids.length cI)):=⟨cn0,cn1,cn2,cn3,cn4,cn5,hin.below (HB3.out.mono (by omega))⟩
 have HS3:Hid (St B Z E O fv fs st W3):=hst.below HB3.out
 have HV3:=Xa (HV.out.below HB3.out)
 have HH3:=Xa (hh.on HF3.out)
 have hz3:W3.heap.size=w.heap.size+1:=by rw[←hW3];simp
 by_cases hk0:x.kids.length=0
 ·obtain ⟨Q,hQ⟩:∃Q,Kk (Xf fs d) x ns h st=Q:=⟨_,rfl⟩
  have HQ:Hid (h (Zp []) st=Q):=by rw[Hid,←hQ];unfold Kk;rw[if_pos hk0]
  have HRE:Hid (∀W,Rep W (Zp []) (.iface 158 (.agg #[.slice none 0 0]))):=fun W=>Rep.of (Xlt (l:= []) ⟨by simp,none,0,rfl,fun hp=>absurd hp (by simp)⟩) (Xh3 5 [] (Xl []) 0 (fun i hi=>absurd hi (by omega))) Xbb
  rw[hQ]
  rw[hk0] at hW3 cn5⊢
  have HK0:=Xa hk0
  clear hk0
  clear hin hh hst hv hx hok ho hQ k
  go_enter Tryz.func112,Tryz.ntmps112
  go_wp2_with fail
  rw[HH3.out.enter,Oper.upon_enter]
  refine (HH3.out.says _ (FrH.refl _ _ _ _) st _ _ hd HS3.out (HRE.out _)).mono ?_
  rw[HQ.out]
  rintro e w2 ⟨⟨ev,rfl,hev⟩,hf2,hs2⟩
  have HEV:=Xa hev
  have HF2:=Xa (HF3.out.trans hf2)
  have HS2:=Xa hs2
  clear hev hf2 hs2
  go_wp2_with fail
  go_ret
  exact ⟨⟨_,rfl,HEV.out⟩,HF2.out,HS2.out⟩
 ·obtain ⟨kb,ko,kcap,ek,hkb,k4⟩:=HNB.out.inn.kids.get (j:=0) (by omega)
  injection ek with ek1 ek2 ek3
  subst ek1 ek3
  have hkk:=hx.kid 0 (by omega)
  obtain ⟨K0,hK0⟩:∃K0:Nat,Xi x 0=(K0:Int):=⟨(Xi x 0).toNat,by omega⟩
  have k5:W3.cell? ⟨kb,ko,none⟩=some (.int .i64 (K0:Int)):=by rw[←hK0];unfold Xi;simpa using k4
  obtain ⟨r,hr⟩:∃r,Xf fs d K0 ns st.1=r:=⟨_,rfl⟩
  have hgood:=Yr hok d
  have HLE:Hid (r.fu≤d):=by have:=hgood.le K0 ns st.1 hv.1;rw[hr] at this;exact Nat.le_trans this hd
  have H40:Hid (r.l.length≤40):=by have:=hgood.few K0 ns st.1 hv.1;rw[hr] at this;exact this
  have HOC:=Xa (ho K0 (.iface ty y) ns st.1 W3 (by rw[hK0] at hkk;simpa using hkk.2) HS3.out.ev HV3.out hd)
  rw[hr] at HOC
  obtain ⟨Q,hQ⟩:∃Q,Kk (Xf fs d) x ns h st=Q:=⟨_,rfl⟩
  have HQ0:Hid (r.c≠0→Q=(r.c,(r.fu,st.2))):=fun e=>by rw[←hQ];unfold Kk;rw[if_neg hk0,hK0,Int.toNat_natCast,hr,if_neg e]
  have HQ1:Hid (r.c=0→Q=Xv (Yu (Zp r.l)) h (r.fu,st.2)):=fun e=>by rw[←hQ];unfold Kk;rw[if_neg hk0,hK0,Int.toNat_natCast,hr,if_pos e]
  rw[hQ]
  have hlp:0<x.kids.length:=Nat.pos_of_ne_zero hk0
  have hlp2:¬(x.kids.length:Int)=0:=fun e=>hk0 (Int.natCast_eq_zero.1 e)
  have hlp3:(0:Int)<(x.kids.length:Int):=Int.natCast_pos.2 hlp
  have lkb:kb<w.heap.size:=Nat.lt_trans hkb (Nat.lt_of_lt_of_le hBZ hZw)
  have k5w:w.cell? ⟨kb,ko,none⟩=some (.int .i64 (K0:Int)):=(Xc HB3.out lkb).symm.trans k5
  clear hin hh hst hv hx hok ho hQ hr hK0 k4 hkk k hgood hk0
  go_enter Tryz.func112,Tryz.ntmps112
  go_wp2_with fail
  try rw[hW3]
  refine HOC.out.mono ?_
  rintro e w1 ⟨it,ev,rfl,hans,hb,he⟩
  have HS1:=Xa (HS3.out.step hb he)
  have HF1:Hid (FrH Z E O W3 w1):=hb.frh HS3.out.hZ
  have HF01:=Xa (HF3.out.trans HF1.out)
  clear hb he cn0 cn1 cn2 cn3 cn4 cn5 k5
  rcases hans with ⟨h1,rfl,hit⟩|⟨h1,rfl,te,xe,rfl,hrs⟩
  ·have HUN:=Xa (Xh0 hit (by have:=H40.out;omega) HS1.out.ev.errs.now.two)
   obtain ⟨_,a,c,rfl,_⟩:=hit
   have HQ:Hid (Q=Xv (Yu (Zp r.l)) h (r.fu,st.2)):=HQ1.out h1
   obtain ⟨M,hM⟩:∃M,r.l.length=M:=⟨_,rfl⟩
   obtain ⟨T,hT⟩:∃T,Yu (Zp r.l)=T:=⟨_,rfl⟩
   rw[hT] at HUN HQ
   rw[hM] at HUN⊢
   clear h1 hM hT
   go_wp2_with fail
   refine HUN.out.mono ?_
   rintro e w5 ⟨ha,hb5⟩
   have HB5:=Xa hb5
   rcases ha with ⟨h1,u,rfl,hre⟩|⟨h1,u,rfl,hre⟩
   ·have HOR:=Xa (Vo (HH3.out.on HF1.out) HS1.out HLE.out hb5 (.inl ⟨h1,rfl,hre⟩))
    rw[←HQ.out] at HOR
    obtain ⟨t6,y6,rfl⟩:=hre.iface
    clear hb5 h1 hre
    go_wp2_with fail
    refine HOR.out.mono ?_
    rintro e w6 ⟨⟨ev,rfl,hev⟩,hf3,hs3⟩
    have HF:=Xa (HF01.out.trans hf3)
    have HS:=Xa hs3
    have HEV:=Xa hev
    clear hf3 hs3 hev
    go_wp2_with fail
    go_ret
    exact ⟨⟨_,rfl,HEV.out⟩,HF.out,HS.out⟩
   ·have HOR:=Xa (Vo (HH3.out.on HF1.out) HS1.out HLE.out hb5 (.inr ⟨h1,rfl,hre⟩))
    rw[←HQ.out] at HOR
    obtain ⟨te,xe,rfl,_⟩:=hre
    obtain ⟨C,hC⟩:∃C,T.1=C:=⟨_,rfl⟩
    rw[hC] at HOR⊢
    clear hb5 h1 hC
    go_wp2_with fail
    refine HOR.out.mono ?_
    rintro e w6 ⟨⟨ev,rfl,hev⟩,hf3,hs3⟩
    have HF:=Xa (HF01.out.trans hf3)
    have HS:=Xa hs3
    have HEV:=Xa hev
    clear hf3 hs3 hev
    go_wp2_with fail
    go_ret
    exact ⟨⟨_,rfl,HEV.out⟩,HF.out,HS.out⟩
  ·have HQ:Hid (Q=(r.c,(r.fu,st.2))):=HQ0.out h1
   have H1:=Xa h1
   have HRS:=Xa hrs
   obtain ⟨C,hC⟩:∃C,r.c=C:=⟨_,rfl⟩
   rw[hC] at H1 HRS HQ⊢
   clear h1 hrs hC
   go_wp2_with fail
   go_ret
   exact ⟨⟨_,rfl, .inr (by rw[HQ.out];exact ⟨H1.out,te,xe,rfl,HRS.out⟩)⟩,HF01.out,by rw[HQ.out];exact HS1.out⟩

set_option maxRecDepth 100000 in
theorem Xr1 {B Z E O d:Nat} {fv:Value} {fs:List FN} (hok:okF fs=true) (ho:Qr B E fv fs d) {x:FN} (hx:NodeOk fs x) (k:x.kind=21) {kc kn ki v:Value} {ns:List VN} {H:FuncId} {caps:Array Value} {h:Yc} {st:Xt} {w:World} (hin:FNodeIn B w x kc kn ki) (hh:HandOk B Z E O d fv fs w H caps h) (hst:St B Z E O fv fs st w) (hv:Rep w ns v) (hd:st.1≤d):
  Calls Tryz.prog 116 #[.pointer (some ⟨E,0,none⟩),Ya x kc kn ki,v,X5 H caps] w (Yz B Z E O fv fs (Gt (Xf fs d) (Xi x 1) ns h (Zq (Xf fs d (Xi x 0).toNat ns st.1)) st.2) w):=by
 have HN:=Xa hin
 have HH:=Xa hh
 have HST:=Xa hst
 have HV:=Xa hv
 have HX:=Xa hx
 obtain ⟨_,aC,cC,rfl,_⟩:=hin.cst
 obtain ⟨_,_,aK,cK,rfl,_⟩:=hin.names
 obtain ⟨_,_,aI,cI,rfl,_⟩:=hin.kids
 obtain ⟨ty,y,rfl⟩:=hv.iface
 have hO:=hst.hO
 have hZw:=hst.hZ
 have hEZ:=hst.hEZ
 have hBZ:=hst.hBZ
 have hBE:=hst.ev.hBE
 obtain ⟨W3,hW3⟩:∃W3,(w.alloc (.cells #[.int .i64 x.kind, .string x.name, .int .i64 x.place, .slice aC x.cst.length cC, .slice aK x.names.length cK, .slice aI x.kids.length cI] 84)).alloc (.cells #[.func (.func H) #[] caps] 161)=W3:=⟨_,rfl⟩
 have HB3:Hid (Below w.heap.size w W3):=by rw[Hid,←hW3];exact (((Below.refl w.heap.size w).alloc (Nat.le_refl _) _).alloc (by simp<;>omega) _)
 have HF3:Hid (FrH Z E O w W3):= .of_below HB3.out hst.hZ
 have cn0:W3.cell? ⟨w.heap.size,0,none⟩=some (.int .i64 x.kind):=by rw[←hW3];rw[World.cell?_alloc_past _ _ _ (by simp<;>omega)];rw[World.cell?_alloc_at _ _ _ _ (by simp)];rfl
 have cn1:W3.cell? ⟨w.heap.size,1,none⟩=some (.string x.name):=by rw[←hW3];rw[World.cell?_alloc_past _ _ _ (by simp<;>omega)];rw[World.cell?_alloc_at _ _ _ _ (by simp)];rfl
 have cn2:W3.cell? ⟨w.heap.size,2,none⟩=some (.int .i64 x.place):=by rw[←hW3];rw[World.cell?_alloc_past _ _ _ (by simp<;>omega)];rw[World.cell?_alloc_at _ _ _ _ (by simp)];rfl
 have cn3:W3.cell? ⟨w.heap.size,3,none⟩=some (.slice aC x.cst.length cC):=by rw[←hW3];rw[World.cell?_alloc_past _ _ _ (by simp<;>omega)];rw[World.cell?_alloc_at _ _ _ _ (by simp)];rfl
 have cn4:W3.cell? ⟨w.heap.size,4,none⟩=some (.slice aK x.names.length cK):=by rw[←hW3];rw[World.cell?_alloc_past _ _ _ (by simp<;>omega)];rw[World.cell?_alloc_at _ _ _ _ (by simp)];rfl
 have cn5:W3.cell? ⟨w.heap.size,5,none⟩=some (.slice aI x.kids.length cI):=by rw[←hW3];rw[World.cell?_alloc_past _ _ _ (by simp<;>omega)];rw[World.cell?_alloc_at _ _ _ _ (by simp)];rfl
 have HNB:Hid (NodeBox B W3 (w.heap.size) x (.slice aC x.cst.length cC) (.slice aK x.names.length cK) (.slice aI x.kids.length cI)):=⟨cn0,cn1,cn2,cn3,cn4,cn5,hin.below (HB3.out.mono (by omega))⟩
 have ch:W3.cell? ⟨w.heap.size+1,0,none⟩=some (.func (.func H) #[] caps):=by rw[←hW3];rw[World.cell?_alloc_at _ _ _ _ (by simp)];rfl
 have HS3:Hid (St B Z E O fv fs st W3):=hst.below HB3.out
 have HV3:=Xa (HV.out.below HB3.out)
 have HH3:=Xa (hh.on HF3.out)
 have hz3:W3.heap.size=w.heap.size+2:=by rw[←hW3];simp
 have h2:=hx.two (.inr (.inr ⟨by omega,by omega⟩))
 obtain ⟨kb,ko,kcap,ek,hkb,k4⟩:=HNB.out.inn.kids.get (j:=0) (by omega)
 obtain ⟨kb2,ko2,kcap2,ek2,hkb2,k42⟩:=HNB.out.inn.kids.get (j:=1) (by omega)
 injection ek with ea1 ea2 ea3
 rw[ea1] at ek2
 injection ek2 with eb1 eb2 eb3
 injection eb1 with eb1
 injection eb1 with eb1 eb4 eb5
 clear eb2 eb3 eb5
 subst ea1 ea3 eb1 eb4
 have hkk:=hx.kid 0 (by omega)
 obtain ⟨K0,hK0⟩:∃K0:Nat,Xi x 0=(K0:Int):=⟨(Xi x 0).toNat,by omega⟩
 obtain ⟨K1,hK1⟩:∃K1,Xi x 1=K1:=⟨_,rfl⟩
 have k5:W3.cell? ⟨kb,ko,none⟩=some (.int .i64 (K0:Int)):=by rw[←hK0];unfold Xi;simpa using k4
 have k6:W3.cell? ⟨kb,ko+1,none⟩=some (.int .i64 K1):=by rw[←hK1];exact k42
 obtain ⟨r,hr⟩:∃r,Zq (Xf fs d K0 ns st.1)=r:=⟨_,rfl⟩
 have hgood:(∀x∈r.l,okB x=true)∧r.fu≤st.1:=by rw[←hr];exact Xay (Yr hok d) K0 hv.1 st.1
 rw[hK0,Int.toNat_natCast,hr]
 have HOR:=Xa (Xim ho K0 (.iface ty y) ns st.1 W3 (by rw[hK0] at hkk;simpa using hkk.2) HS3.out.ev HV3.out hd)
 rw[hr] at HOR
 have HLE:Hid (r.fu≤d):=Nat.le_trans hgood.2 hd
 have H40:Hid (r.l.length≤40):=by rw[Hid,←hr];unfold Zq;split;simp;exact (Yr hok d).few _ _ _ hv.1
 obtain ⟨Q,hQ⟩:∃Q,Gt (Xf fs d) (Xi x 1) ns h r st.2=Q:=⟨_,rfl⟩
 have HQ0:Hid (r.c≠0→Q=(r.c,(r.fu,st.2))):=fun e=>by rw[←hQ];unfold Gt;rw[if_neg e]
 have HQ1:Hid (r.c=0→r.l.any Xx=true→Q=Xo (Vg h) r.l (r.fu,st.2)):=fun e t=>by rw[←hQ];unfold Gt;rw[if_pos e,if_pos t]
 obtain ⟨G,hG⟩:∃G,Xq (Xf fs d) (Xi x 1) ns h (r.fu,st.2)=G:=⟨_,rfl⟩
 have HQ2:Hid (r.c=0→r.l.any Xx=false→Q=G):=fun e t=>by rw[←hQ,←hG];unfold Gt;rw[if_pos e,if_neg (by rw[t];simp)]
 have HEA:Hid (∀w1,FrH Z E O W3 w1→St B Z E O fv fs (r.fu,st.2) w1→∀W,Below w1.heap.size w1 W→Calls Tryz.prog 110 #[.pointer (some ⟨E,0,none⟩), .int .i64 K1, .iface ty y,X5 H caps] W fun e w'=>(∃v,e= .returned v∧Jk w' G.1 v)∧FrH Z E O w1 w'∧St B Z E O fv fs G.2 w'):=fun w1 hf1 hs1 W hb=>by
  rw[←hK1,←hG]
  exact Q5 hok ho (hx.kid 1 (by omega)) (HH3.out.on hf1) hs1 (HV3.out.reads (HS3.out.reads hf1)) (Nat.le_trans hgood.2 hd) (Nat.le_trans hgood.2 hd) hb
 have HAH:Hid (HandOk B Z E O d fv fs W3 152 #[.pointer (some ⟨w.heap.size+1,0,none⟩)] (Vg h)):=X1z HH3.out ⟨by omega,by omega⟩ ch
 rw[hQ]
 have hlp:1<x.kids.length:=by omega
 have hlp2:(1:Int)<(x.kids.length:Int):=by omega
 have hlp3:0<x.kids.length:=by omega
 have hlp4:(0:Int)<(x.kids.length:Int):=by omega
 have lkb:kb<w.heap.size:=by omega
 have k5w:w.cell? ⟨kb,ko,none⟩=some (.int .i64 (K0:Int)):=(Xc HB3.out lkb).symm.trans k5
 clear hin hh hst hv hx hok ho hr hQ hK1 hK0 k4 k42 h2 hkk hgood k hG
 go_enter Tryz.func116,Tryz.ntmps116
 go_wp2_with fail
 try rw[hW3]
 refine HOR.out.mono ?_
 rintro e w1 ⟨it,ev,rfl,hans,hb,he⟩
 have HS1:=Xa (HS3.out.step hb he)
 have hf1:FrH Z E O W3 w1:=hb.frh HS3.out.hZ
 have HF1:=Xa hf1
 have HF01:=Xa (HF3.out.trans hf1)
 have g1:=hf1.cell _ _ _ (by omega) (by omega) (by intro e;cases e) cn5
 have g2:=hf1.cell _ _ _ (by omega) (by omega) (by intro e;cases e) ch
 have g3:=hf1.cell _ _ _ (by omega) (by omega) (by intro e;cases e) k6
 have lz1:=hf1.size
 have lz2:kb<w1.heap.size:=by omega
 have lz3:w.heap.size+1<w1.heap.size:=by omega
 clear hb he hf1 ch cn0 cn1 cn2 cn3 cn4 cn5 k5 k6 hz3 lz1 hW3 k5w
 rcases hans with ⟨h1,rfl,hit⟩|⟨h1,rfl,te,xe,rfl,hrs⟩
 ·have HIT:=Xa hit
  obtain ⟨_,a,c,rfl,_⟩:=hit
  have hl40:r.l.length≤1000:=by have:=H40.out;omega
  have HCF:=Xa (Xfz _ r.l w1 HIT.out hl40)
  obtain ⟨tb,htb⟩:∃tb,r.l.any Xx=tb:=⟨_,rfl⟩
  have HTB:=Xa htb
  obtain ⟨M,hM⟩:∃M,r.l.length=M:=⟨_,rfl⟩
  rw[htb,hM] at HCF
  have HIT2:=Xa HIT.out
  rw[hM] at HIT⊢
  have H1:=Xa h1
  have HM:=Xa hM
  clear h1 hM htb hl40
  cases tb
  ·obtain rfl:Q=G:=HQ2.out H1.out HTB.out
   go_wp2_with fail
   refine HCF.out.mono ?_
   rintro e w5 ⟨rfl,hb5⟩
   have HB5:=Xa hb5
   have HEB:=Xa (HEA.out w1 HF1.out HS1.out)
   have i1:=(Xc hb5 (by omega)).trans g1
   have i2:=(Xc hb5 (by omega)).trans g2
   have i3:=(Xc hb5 lz2).trans g3
   clear hb5
   have HSX:Hid (∀Y,FrH Z E O w1 Y→(Y.cell? ⟨w.heap.size,5,none⟩=some (.slice (some ⟨kb,ko,none⟩) x.kids.length cI)∧Y.cell? ⟨w.heap.size+1,0,none⟩=some (X5 H caps)∧Y.cell? ⟨kb,ko+1,none⟩=some (.int .i64 K1))):=fun Y hY=>⟨hY.cell _ _ _ (by omega) (by omega) (by intro e;cases e) g1,hY.cell _ _ _ (by omega) (by omega) (by intro e;cases e) g2,hY.cell _ _ _ (by omega) (by omega) (by intro e;cases e) g3⟩
   have HFD:Hid (FrH Z E O w1 w5.drew):= .of_below HB5.out.drew HS1.out.hZ
   clear g1 g2 g3
   go_wp2_with fail
   go_region_held3 (fun w'=>w'.cell? ⟨w.heap.size,5,none⟩=some (.slice (some ⟨kb,ko,none⟩) x.kids.length cI)∧w'.cell? ⟨w.heap.size+1,0,none⟩=some (X5 H caps)∧w'.cell? ⟨kb,ko+1,none⟩=some (.int .i64 K1))
    (first|exact HSX.out _ hf3|exact HSX.out _ HFD.out)
    (first
     |(go_at_call 110;refine (HEB.out _ HB5.out.drew).mono ?_;rintro e w4 ⟨⟨ev,rfl,hev⟩,hf3,hs3⟩))
   all_goals
    have HF:=Xa (HF01.out.trans hf3)
    have HS:=Xa hs3
    have HEV:=Xa hev
    clear hf3 hs3 hev
    go_wp2_with fail
    go_ret
    exact ⟨⟨_,rfl,HEV.out⟩,HF.out,HS.out⟩
  ·have HQ:Hid (Q=Xo (Vg h) r.l (r.fu,st.2)):=HQ1.out H1.out HTB.out
   go_wp2_with fail
   refine HCF.out.mono ?_
   rintro e w5 ⟨rfl,hb5⟩
   have hf5:FrH Z E O w1 w5:= .of_below hb5 HS1.out.hZ
   have HHA:=Xa (Gz (HAH.out.on (HF1.out.trans hf5)) (HS1.out.below hb5) (HIT2.out.reads (ButE.reads (.of_below (E:=E) hb5) HS1.out.ev)) HLE.out)
   rw[←HQ.out,HM.out] at HHA
   have HF5:=Xa (HF01.out.trans hf5)
   have i2:=(Xc hb5 (by omega)).trans g2
   clear hb5 g1 g2 g3 hf5
   go_wp2_with fail
   refine HHA.out.mono ?_
   rintro e w6 ⟨⟨ev,rfl,hev⟩,hf3,hs3⟩
   have HF:=Xa (HF5.out.trans hf3)
   have HS:=Xa hs3
   have HEV:=Xa hev
   clear hf3 hs3 hev
   go_wp2_with fail
   go_ret
   exact ⟨⟨_,rfl,HEV.out⟩,HF.out,HS.out⟩
 ·have HQ:Hid (Q=(r.c,(r.fu,st.2))):=HQ0.out h1
  have H1:=Xa h1
  have HRS:=Xa hrs
  obtain ⟨C,hC⟩:∃C,r.c=C:=⟨_,rfl⟩
  rw[hC] at H1 HRS HQ⊢
  clear h1 hrs hC
  go_wp2_with fail
  go_ret
  exact ⟨⟨_,rfl, .inr (by rw[HQ.out];exact ⟨H1.out,te,xe,rfl,HRS.out⟩)⟩,HF01.out,by rw[HQ.out];exact HS1.out⟩

set_option maxRecDepth 100000 in
theorem Xz0 {B Z E O d:Nat} {fv:Value} {fs:List FN} (hok:okF fs=true) (ho:Qr B E fv fs d) {x:FN} (hx:NodeOk fs x) (h5:x.kids.length≤5) (hn5:x.names.length≤200) {m:Nat} (ih:Xf5 B Z E O d fv fs d x m):Xf5 B Z E O d fv fs d x (m+1):=by
 intro done ch v kc kn ki ns H caps h st w hm hin hh hst hv hch hd
 have HN:=Xa hin
 have HH:=Xa hh
 have HST:=Xa hst
 have HV:=Xa hv
 have HCH:=Xa hch
 obtain ⟨_,aC,cC,rfl,_⟩:=hin.cst
 obtain ⟨_,_,aK,cK,rfl,_⟩:=hin.names
 obtain ⟨_,_,aI,cI,rfl,_⟩:=hin.kids
 obtain ⟨ty,y,rfl⟩:=hv.iface
 obtain ⟨_,aD,cD,rfl,_⟩:=hch
 have hO:=hst.hO
 have hZw:=hst.hZ
 have hEZ:=hst.hEZ
 have hBZ:=hst.hBZ
 have hBE:=hst.ev.hBE
 obtain ⟨W3,hW3⟩:∃W3,(((((w.alloc (.cells #[.pointer (some ⟨E,0,none⟩)] 103)).alloc (.cells #[.int .i64 x.kind, .string x.name, .int .i64 x.place, .slice aC x.cst.length cC, .slice aK x.names.length cK, .slice aI x.kids.length cI] 84)).alloc (.cells #[.iface ty y] 52)).alloc (.cells #[.slice aD done.length cD] 58)).alloc (.cells #[.func (.func H) #[] caps] 161))=W3:=⟨_,rfl⟩
 have HB3:Hid (Below w.heap.size w W3):=by rw[Hid,←hW3];exact ((((((Below.refl w.heap.size w).alloc (by simp<;>omega) _).alloc (by simp<;>omega) _).alloc (by simp<;>omega) _).alloc (by simp<;>omega) _).alloc (by simp<;>omega) _)
 have HF3:Hid (FrH Z E O w W3):= .of_below HB3.out hst.hZ
 have ce:W3.cell? ⟨w.heap.size,0,none⟩=some (.pointer (some ⟨E,0,none⟩)):=by rw[←hW3];rw[World.cell?_alloc_past _ _ _ (by simp<;>omega)];rw[World.cell?_alloc_past _ _ _ (by simp<;>omega)];rw[World.cell?_alloc_past _ _ _ (by simp<;>omega)];rw[World.cell?_alloc_past _ _ _ (by simp<;>omega)];rw[World.cell?_alloc_at _ _ _ _ (by simp)];rfl
 have cn0:W3.cell? ⟨w.heap.size+1,0,none⟩=some (.int .i64 x.kind):=by rw[←hW3];rw[World.cell?_alloc_past _ _ _ (by simp<;>omega)];rw[World.cell?_alloc_past _ _ _ (by simp<;>omega)];rw[World.cell?_alloc_past _ _ _ (by simp<;>omega)];rw[World.cell?_alloc_at _ _ _ _ (by simp)];rfl
 have cn1:W3.cell? ⟨w.heap.size+1,1,none⟩=some (.string x.name):=by rw[←hW3];rw[World.cell?_alloc_past _ _ _ (by simp<;>omega)];rw[World.cell?_alloc_past _ _ _ (by simp<;>omega)];rw[World.cell?_alloc_past _ _ _ (by simp<;>omega)];rw[World.cell?_alloc_at _ _ _ _ (by simp)];rfl
 have cn2:W3.cell? ⟨w.heap.size+1,2,none⟩=some (.int .i64 x.place):=by rw[←hW3];rw[World.cell?_alloc_past _ _ _ (by simp<;>omega)];rw[World.cell?_alloc_past _ _ _ (by simp<;>omega)];rw[World.cell?_alloc_past _ _ _ (by simp<;>omega)];rw[World.cell?_alloc_at _ _ _ _ (by simp)];rfl
 have cn3:W3.cell? ⟨w.heap.size+1,3,none⟩=some (.slice aC x.cst.length cC):=by rw[←hW3];rw[World.cell?_alloc_past _ _ _ (by simp<;>omega)];rw[World.cell?_alloc_past _ _ _ (by simp<;>omega)];rw[World.cell?_alloc_past _ _ _ (by simp<;>omega)];rw[World.cell?_alloc_at _ _ _ _ (by simp)];rfl
 have cn4:W3.cell? ⟨w.heap.size+1,4,none⟩=some (.slice aK x.names.length cK):=by rw[←hW3];rw[World.cell?_alloc_past _ _ _ (by simp<;>omega)];rw[World.cell?_alloc_past _ _ _ (by simp<;>omega)];rw[World.cell?_alloc_past _ _ _ (by simp<;>omega)];rw[World.cell?_alloc_at _ _ _ _ (by simp)];rfl
 have cn5:W3.cell? ⟨w.heap.size+1,5,none⟩=some (.slice aI x.kids.length cI):=by rw[←hW3];rw[World.cell?_alloc_past _ _ _ (by simp<;>omega)];rw[World.cell?_alloc_past _ _ _ (by simp<;>omega)];rw[World.cell?_alloc_past _ _ _ (by simp<;>omega)];rw[World.cell?_alloc_at _ _ _ _ (by simp)];rfl
 have cv:W3.cell? ⟨w.heap.size+2,0,none⟩=some (.iface ty y):=by rw[←hW3];rw[World.cell?_alloc_past _ _ _ (by simp<;>omega)];rw[World.cell?_alloc_past _ _ _ (by simp<;>omega)];rw[World.cell?_alloc_at _ _ _ _ (by simp)];rfl
 have cc:W3.cell? ⟨w.heap.size+3,0,none⟩=some (.slice aD done.length cD):=by rw[←hW3];rw[World.cell?_alloc_past _ _ _ (by simp<;>omega)];rw[World.cell?_alloc_at _ _ _ _ (by simp)];rfl
 have chh:W3.cell? ⟨w.heap.size+4,0,none⟩=some (.func (.func H) #[] caps):=by rw[←hW3];rw[World.cell?_alloc_at _ _ _ _ (by simp)];rfl
 have HNB:Hid (NodeBox B W3 (w.heap.size+1) x (.slice aC x.cst.length cC) (.slice aK x.names.length cK) (.slice aI x.kids.length cI)):=⟨cn0,cn1,cn2,cn3,cn4,cn5,hin.below (HB3.out.mono (by omega))⟩
 have HS3:Hid (St B Z E O fv fs st W3):=hst.below HB3.out
 have HV3:=Xa (HV.out.below HB3.out)
 have HC3:Hid (ItemsRep W3 _ done):=HCH.out.reads (hst.reads HF3.out)
 have HH3:=Xa (hh.on HF3.out)
 have hz3:W3.heap.size=w.heap.size+5:=by rw[←hW3];simp
 have hlt:done.length<x.kids.length:=by omega
 have hkk:=hx.kid done.length hlt
 have e9:Z6 (Xf fs d) x.names ns h (x.kids.drop done.length) done st=Xq (Xf fs d) (Xi x done.length) ns (fun y=>Z6 (Xf fs d) x.names ns h (x.kids.drop (done.length+1)) (done++ [y])) st:=by
  rw[X15 hlt];rfl
 rw[e9]
 obtain ⟨kb,ko,kcap,ek,hkb,k4⟩:=(hin.below (HB3.out.mono (by omega))).kids.get (j:=done.length) hlt
 injection ek with ek1 ek2 ek3
 subst ek1 ek3
 have HHD:=Xa (X18 (D:=d) hok ih h5 hm HH3.out hBE (by omega) HV3.out HC3.out (fun w' hf=>HS3.out.reads hf) (eb:=w.heap.size) (nb:=w.heap.size+1) (vb:=w.heap.size+2) (cb:=w.heap.size+3) (hb:=w.heap.size+4) ⟨by omega,by omega⟩ ⟨by omega,by omega⟩ ⟨by omega,by omega⟩ ⟨by omega,by omega⟩ ⟨by omega,by omega⟩ ce HNB.out cv cc chh)
 obtain ⟨R,hR⟩:∃R,Xq (Xf fs d) (Xi x done.length) ns (fun y=>Z6 (Xf fs d) x.names ns h (x.kids.drop (done.length+1)) (done++ [y])) st=R:=⟨_,rfl⟩
 have HEA:Hid (∀W,Below W3.heap.size W3 W→Calls Tryz.prog 110 #[.pointer (some ⟨E,0,none⟩), .int .i64 (Xi x done.length), .iface ty y,X5 143 #[.pointer (some ⟨w.heap.size,0,none⟩), .pointer (some ⟨w.heap.size+1,0,none⟩), .pointer (some ⟨w.heap.size+2,0,none⟩), .pointer (some ⟨w.heap.size+3,0,none⟩), .pointer (some ⟨w.heap.size+4,0,none⟩)]] W fun e w'=>(∃v,e= .returned v∧Jk w' R.1 v)∧FrH Z E O W3 w'∧St B Z E O fv fs R.2 w'):=fun W hb=>by
  rw[←hR]
  exact Q5 hok ho hkk HHD.out HS3.out HV3.out hd hd hb
 rw[hR]
 obtain ⟨K1,hK1⟩:∃K1,Xi x done.length=K1:=⟨_,rfl⟩
 have k5:W3.cell? ⟨kb,ko+done.length,none⟩=some (.int .i64 K1):=by rw[←hK1];unfold Xi;simpa using k4
 rw[hK1] at HEA
 obtain ⟨M,hM⟩:∃M,done.length=M:=⟨_,rfl⟩
 rw[hM] at hW3 cc k5 hlt⊢
 have hlp2:(M:Int)<(x.kids.length:Int):=by omega
 have hlp3:¬(M:Int)=(x.kids.length:Int):=by omega
 have hlp4:¬M=x.kids.length:=by omega
 have lkb:kb<w.heap.size:=by omega
 have HSX:Hid (∀Y,FrH Z E O W3 Y→(Y.cell? ⟨w.heap.size,0,none⟩=some (.pointer (some ⟨E,0,none⟩))∧Y.cell? ⟨w.heap.size+1,5,none⟩=some (.slice (some ⟨kb,ko,none⟩) x.kids.length cI)∧Y.cell? ⟨w.heap.size+2,0,none⟩=some (.iface ty y)∧Y.cell? ⟨w.heap.size+3,0,none⟩=some (.slice aD M cD)∧Y.cell? ⟨kb,ko+M,none⟩=some (.int .i64 K1))):=fun Y hY=>⟨hY.cell _ _ _ (by omega) (by omega) (by intro e;cases e) ce,hY.cell _ _ _ (by omega) (by omega) (by intro e;cases e) cn5,hY.cell _ _ _ (by omega) (by omega) (by intro e;cases e) cv,hY.cell _ _ _ (by omega) (by omega) (by intro e;cases e) cc,hY.cell _ _ _ (by omega) (by omega) (by intro e;cases e) k5⟩
 have HFD:Hid (FrH Z E O W3 W3.drew):= .of_below (Below.refl _ _).drew HS3.out.hZ
 have HW3:=Xa hW3
 clear hin hh hst hv hx hok ho hR hK1 k4 HHD ih hm hM e9 hkk HC3 HCH
 go_enter Tryz.func113,Tryz.ntmps113
 go_wp2_with fail
 go_region_held3 (fun w'=>w'.cell? ⟨w.heap.size,0,none⟩=some (.pointer (some ⟨E,0,none⟩))∧w'.cell? ⟨w.heap.size+1,5,none⟩=some (.slice (some ⟨kb,ko,none⟩) x.kids.length cI)∧w'.cell? ⟨w.heap.size+2,0,none⟩=some (.iface ty y)∧w'.cell? ⟨w.heap.size+3,0,none⟩=some (.slice aD M cD)∧w'.cell? ⟨kb,ko+M,none⟩=some (.int .i64 K1))
  (first|exact HSX.out _ hf3|exact HSX.out _ HFD.out)
  (first
   |(go_at_call 110;refine (HEA.out _ (by first|exact Below.refl _ _|exact (Below.refl _ _).drew)).mono ?_;rintro e w4 ⟨⟨ev,rfl,hev⟩,hf3,hs3⟩))
 all_goals
  have HF:=Xa (HF3.out.trans hf3)
  have HS:=Xa hs3
  have HEV:=Xa hev
  clear hf3 hs3 hev
  go_wp2_with fail
  go_ret
  exact ⟨⟨_,rfl,HEV.out⟩,HF.out,HS.out⟩
set_option maxRecDepth 100000 in
theorem Xz1 {B Z E O d:Nat} {fv:Value} {fs:List FN} (hok:okF fs=true) (ho:Qr B E fv fs d) {x:FN} (hx:NodeOk fs x) (h5:x.kids.length≤5) (hn5:x.names.length≤200):Xf5 B Z E O d fv fs d x 0:=by
 intro done ch v kc kn ki ns H caps h st w hm hin hh hst hv hch hd
 have HN:=Xa hin
 have HH:=Xa hh
 have HST:=Xa hst
 have HV:=Xa hv
 have HCH:=Xa hch
 obtain ⟨_,aC,cC,rfl,_⟩:=hin.cst
 obtain ⟨_,_,aK,cK,rfl,_⟩:=hin.names
 obtain ⟨_,_,aI,cI,rfl,_⟩:=hin.kids
 obtain ⟨ty,y,rfl⟩:=hv.iface
 obtain ⟨_,aD,cD,rfl,_⟩:=hch
 have hO:=hst.hO
 have hZw:=hst.hZ
 have hEZ:=hst.hEZ
 have hBZ:=hst.hBZ
 have hBE:=hst.ev.hBE
 obtain ⟨W3,hW3⟩:∃W3,(((((w.alloc (.cells #[.pointer (some ⟨E,0,none⟩)] 103)).alloc (.cells #[.int .i64 x.kind, .string x.name, .int .i64 x.place, .slice aC x.cst.length cC, .slice aK x.names.length cK, .slice aI x.kids.length cI] 84)).alloc (.cells #[.iface ty y] 52)).alloc (.cells #[.slice aD done.length cD] 58)).alloc (.cells #[.func (.func H) #[] caps] 161))=W3:=⟨_,rfl⟩
 have HB3:Hid (Below w.heap.size w W3):=by rw[Hid,←hW3];exact ((((((Below.refl w.heap.size w).alloc (by simp<;>omega) _).alloc (by simp<;>omega) _).alloc (by simp<;>omega) _).alloc (by simp<;>omega) _).alloc (by simp<;>omega) _)
 have HF3:Hid (FrH Z E O w W3):= .of_below HB3.out hst.hZ
 have ce:W3.cell? ⟨w.heap.size,0,none⟩=some (.pointer (some ⟨E,0,none⟩)):=by rw[←hW3];rw[World.cell?_alloc_past _ _ _ (by simp<;>omega)];rw[World.cell?_alloc_past _ _ _ (by simp<;>omega)];rw[World.cell?_alloc_past _ _ _ (by simp<;>omega)];rw[World.cell?_alloc_past _ _ _ (by simp<;>omega)];rw[World.cell?_alloc_at _ _ _ _ (by simp)];rfl
 have cn0:W3.cell? ⟨w.heap.size+1,0,none⟩=some (.int .i64 x.kind):=by rw[←hW3];rw[World.cell?_alloc_past _ _ _ (by simp<;>omega)];rw[World.cell?_alloc_past _ _ _ (by simp<;>omega)];rw[World.cell?_alloc_past _ _ _ (by simp<;>omega)];rw[World.cell?_alloc_at _ _ _ _ (by simp)];rfl
 have cn1:W3.cell? ⟨w.heap.size+1,1,none⟩=some (.string x.name):=by rw[←hW3];rw[World.cell?_alloc_past _ _ _ (by simp<;>omega)];rw[World.cell?_alloc_past _ _ _ (by simp<;>omega)];rw[World.cell?_alloc_past _ _ _ (by simp<;>omega)];rw[World.cell?_alloc_at _ _ _ _ (by simp)];rfl
 have cn2:W3.cell? ⟨w.heap.size+1,2,none⟩=some (.int .i64 x.place):=by rw[←hW3];rw[World.cell?_alloc_past _ _ _ (by simp<;>omega)];rw[World.cell?_alloc_past _ _ _ (by simp<;>omega)];rw[World.cell?_alloc_past _ _ _ (by simp<;>omega)];rw[World.cell?_alloc_at _ _ _ _ (by simp)];rfl
 have cn3:W3.cell? ⟨w.heap.size+1,3,none⟩=some (.slice aC x.cst.length cC):=by rw[←hW3];rw[World.cell?_alloc_past _ _ _ (by simp<;>omega)];rw[World.cell?_alloc_past _ _ _ (by simp<;>omega)];rw[World.cell?_alloc_past _ _ _ (by simp<;>omega)];rw[World.cell?_alloc_at _ _ _ _ (by simp)];rfl
 have cn4:W3.cell? ⟨w.heap.size+1,4,none⟩=some (.slice aK x.names.length cK):=by rw[←hW3];rw[World.cell?_alloc_past _ _ _ (by simp<;>omega)];rw[World.cell?_alloc_past _ _ _ (by simp<;>omega)];rw[World.cell?_alloc_past _ _ _ (by simp<;>omega)];rw[World.cell?_alloc_at _ _ _ _ (by simp)];rfl
 have cn5:W3.cell? ⟨w.heap.size+1,5,none⟩=some (.slice aI x.kids.length cI):=by rw[←hW3];rw[World.cell?_alloc_past _ _ _ (by simp<;>omega)];rw[World.cell?_alloc_past _ _ _ (by simp<;>omega)];rw[World.cell?_alloc_past _ _ _ (by simp<;>omega)];rw[World.cell?_alloc_at _ _ _ _ (by simp)];rfl
 have cv:W3.cell? ⟨w.heap.size+2,0,none⟩=some (.iface ty y):=by rw[←hW3];rw[World.cell?_alloc_past _ _ _ (by simp<;>omega)];rw[World.cell?_alloc_past _ _ _ (by simp<;>omega)];rw[World.cell?_alloc_at _ _ _ _ (by simp)];rfl
 have cc:W3.cell? ⟨w.heap.size+3,0,none⟩=some (.slice aD done.length cD):=by rw[←hW3];rw[World.cell?_alloc_past _ _ _ (by simp<;>omega)];rw[World.cell?_alloc_at _ _ _ _ (by simp)];rfl
 have chh:W3.cell? ⟨w.heap.size+4,0,none⟩=some (.func (.func H) #[] caps):=by rw[←hW3];rw[World.cell?_alloc_at _ _ _ _ (by simp)];rfl
 have HNB:Hid (NodeBox B W3 (w.heap.size+1) x (.slice aC x.cst.length cC) (.slice aK x.names.length cK) (.slice aI x.kids.length cI)):=⟨cn0,cn1,cn2,cn3,cn4,cn5,hin.below (HB3.out.mono (by omega))⟩
 have HS3:Hid (St B Z E O fv fs st W3):=hst.below HB3.out
 have HV3:=Xa (HV.out.below HB3.out)
 have HC3:Hid (ItemsRep W3 _ done):=HCH.out.reads (hst.reads HF3.out)
 have HH3:=Xa (hh.on HF3.out)
 have hz3:W3.heap.size=w.heap.size+5:=by rw[←hW3];simp
 have hlt:done.length=x.kids.length:=by omega
 have e9:Z6 (Xf fs d) x.names ns h (x.kids.drop done.length) done st=Xv (Yu (Xdb x.names done)) h st:=by
  rw[hlt,List.drop_length];rfl
 rw[e9]
 have hnm:StrsAt W3.heap.size W3 (.slice aK x.names.length cK) x.names:=((hin.below (HB3.out.mono (by omega))).names).wide (by omega)
 have HMR:=Xa (X3t (w:=W3) HC3.out hnm (by omega) hn5 HS3.out.ev.errs.now.two)
 obtain ⟨Q,hQ⟩:∃Q,Yu (Xdb x.names done)=Q:=⟨_,rfl⟩
 rw[hQ] at HMR⊢
 obtain ⟨P,hP⟩:∃P,Xv Q h st=P:=⟨_,rfl⟩
 have HP:=Xa hP
 have hlk:x.kids.length=done.length:=hlt.symm
 obtain ⟨M,hM⟩:∃M,done.length=M:=⟨_,rfl⟩
 rw[hM] at HMR hW3 cc hlk⊢
 rw[hlk] at cn5 hW3⊢
 rw[hP]
 clear hin hh hst hv hx hok ho hm hM e9 hlt hlk hQ hP hnm h5
 go_enter Tryz.func113,Tryz.ntmps113
 go_wp2_with fail
 try rw[hW3]
 refine HMR.out.mono ?_
 rintro e w5 ⟨(⟨h1,rx,rfl,hre⟩|⟨h1,rx,rfl,hre⟩),hb5⟩
 ·have HOR:=Xa (Vo HH3.out HS3.out hd hb5 (.inl ⟨h1,rfl,hre⟩))
  rw[HP.out] at HOR
  obtain ⟨t6,y6,rfl⟩:=hre.iface
  have g4:=(Xc hb5 (by omega)).trans chh
  clear hb5 h1 hre chh
  go_wp2_with fail
  refine HOR.out.mono ?_
  rintro e w6 ⟨⟨ev,rfl,hev⟩,hf3,hs3⟩
  have HF:=Xa (HF3.out.trans hf3)
  have HS:=Xa hs3
  have HEV:=Xa hev
  clear hf3 hs3 hev
  go_wp2_with fail
  go_ret
  exact ⟨⟨_,rfl,HEV.out⟩,HF.out,HS.out⟩
 ·have HOR:=Xa (Vo HH3.out HS3.out hd hb5 (.inr ⟨h1,rfl,hre⟩))
  rw[HP.out] at HOR
  obtain ⟨te,xe,rfl,_⟩:=hre
  have g4:=(Xc hb5 (by omega)).trans chh
  clear hb5 h1 chh
  go_wp2_with fail
  refine HOR.out.mono ?_
  rintro e w6 ⟨⟨ev,rfl,hev⟩,hf3,hs3⟩
  have HF:=Xa (HF3.out.trans hf3)
  have HS:=Xa hs3
  have HEV:=Xa hev
  clear hf3 hs3 hev
  go_wp2_with fail
  go_ret
  exact ⟨⟨_,rfl,HEV.out⟩,HF.out,HS.out⟩
theorem Xsu {B Z E O d:Nat} {fv:Value} {fs:List FN} (hok:okF fs=true) (ho:Qr B E fv fs d) {x:FN} (hx:NodeOk fs x) (h5:x.kids.length≤5) (hn5:x.names.length≤200):∀m,Xf5 B Z E O d fv fs d x m
 |0=>Xz1 hok ho hx h5 hn5
 |m+1=>Xz0 hok ho hx h5 hn5 (Xsu hok ho hx h5 hn5 m)

structure Bx3 (w W:World) (a n0 n1 n2 n3 n4 n5 f:Value):Prop where
 below:Below w.heap.size w W
 ce:W.cell? ⟨w.heap.size,0,none⟩=some a
 cn0:W.cell? ⟨w.heap.size+1,0,none⟩=some n0
 cn1:W.cell? ⟨w.heap.size+1,1,none⟩=some n1
 cn2:W.cell? ⟨w.heap.size+1,2,none⟩=some n2
 cn3:W.cell? ⟨w.heap.size+1,3,none⟩=some n3
 cn4:W.cell? ⟨w.heap.size+1,4,none⟩=some n4
 cn5:W.cell? ⟨w.heap.size+1,5,none⟩=some n5
 ch:W.cell? ⟨w.heap.size+2,0,none⟩=some f
 size:W.heap.size=w.heap.size+3
theorem bx3 (w:World) (a n0 n1 n2 n3 n4 n5 f:Value):Bx3 w (((w.alloc (.cells #[a] 103)).alloc (.cells #[n0,n1,n2,n3,n4,n5] 84)).alloc (.cells #[f] 161)) a n0 n1 n2 n3 n4 n5 f:=by
 refine ⟨((Below.refl w.heap.size w).alloc (Nat.le_refl _) _).alloc (by simp) _|>.alloc (by simp<;>omega) _, ?_, ?_, ?_, ?_, ?_, ?_, ?_, ?_,by simp⟩
 ·rw[World.cell?_alloc_past _ _ _ (by simp<;>omega)];rw[World.cell?_alloc_past _ _ _ (by simp<;>omega)];rw[World.cell?_alloc_at _ _ _ _ (by simp)];rfl
 ·rw[World.cell?_alloc_past _ _ _ (by simp<;>omega)];rw[World.cell?_alloc_at _ _ _ _ (by simp)];rfl
 ·rw[World.cell?_alloc_past _ _ _ (by simp<;>omega)];rw[World.cell?_alloc_at _ _ _ _ (by simp)];rfl
 ·rw[World.cell?_alloc_past _ _ _ (by simp<;>omega)];rw[World.cell?_alloc_at _ _ _ _ (by simp)];rfl
 ·rw[World.cell?_alloc_past _ _ _ (by simp<;>omega)];rw[World.cell?_alloc_at _ _ _ _ (by simp)];rfl
 ·rw[World.cell?_alloc_past _ _ _ (by simp<;>omega)];rw[World.cell?_alloc_at _ _ _ _ (by simp)];rfl
 ·rw[World.cell?_alloc_past _ _ _ (by simp<;>omega)];rw[World.cell?_alloc_at _ _ _ _ (by simp)];rfl
 ·rw[World.cell?_alloc_at _ _ _ _ (by simp)];rfl
set_option maxRecDepth 100000 in
theorem Xw3 {B Z E O d:Nat} {fv:Value} {fs:List FN} (hok:okF fs=true) (ho:Qr B E fv fs d) {x:FN} (hx:NodeOk fs x) (k:x.kind=8) {kc kn ki v:Value} {ns:List VN} {H:FuncId} {caps:Array Value} {h:Yc} {st:Xt} {w:World} (hin:FNodeIn B w x kc kn ki) (hh:HandOk B Z E O d fv fs w H caps h) (hst:St B Z E O fv fs st w) (hv:Rep w ns v) (hd:st.1≤d):
  Calls Tryz.prog 63 #[.pointer (some ⟨E,0,none⟩),Ya x kc kn ki,v,X5 H caps] w (Yz B Z E O fv fs (evM (Xf fs d) x ns h st) w):=by
 obtain ⟨_,aC,cC,rfl,_⟩:=id hin.cst
 obtain ⟨_,_,aK,cK,rfl,_⟩:=id hin.names
 obtain ⟨_,_,aI,cI,rfl,_⟩:=id hin.kids
 obtain ⟨ty,y,rfl⟩:=hv.iface
 have hO:=hst.hO
 have hZw:=hst.hZ
 have hEZ:=hst.hEZ
 have hBZ:=hst.hBZ
 have hBE:=hst.ev.hBE
 have hbx:=bx3 w (.pointer (some ⟨E,0,none⟩)) (.int .i64 x.kind) (.string x.name) (.int .i64 x.place) (.slice aC x.cst.length cC) (.slice aK x.names.length cK) (.slice aI x.kids.length cI) (X5 H caps)
 obtain ⟨W3,hW3⟩:∃W3,((w.alloc (.cells #[.pointer (some ⟨E,0,none⟩)] 103)).alloc (.cells #[.int .i64 x.kind, .string x.name, .int .i64 x.place, .slice aC x.cst.length cC, .slice aK x.names.length cK, .slice aI x.kids.length cI] 84)).alloc (.cells #[X5 H caps] 161)=W3:=⟨_,rfl⟩
 rw[hW3] at hbx
 obtain ⟨hb3,ce,cn0,cn1,cn2,cn3,cn4,cn5,ch,hz3⟩:=hbx
 have HB3:=Xa hb3
 have HF3:Hid (FrH Z E O w W3):= .of_below hb3 hst.hZ
 have HNB:Hid (NodeBox B W3 (w.heap.size+1) x (.slice aC x.cst.length cC) (.slice aK x.names.length cK) (.slice aI x.kids.length cI)):=⟨cn0,cn1,cn2,cn3,cn4,cn5,hin.below (hb3.mono (by omega))⟩
 have HS3:Hid (St B Z E O fv fs st W3):=hst.below hb3
 have HV3:=Xa (hv.below hb3)
 have HH3:=Xa (hh.on HF3.out)
 clear hb3
 obtain ⟨R,hR⟩:∃R,evM (Xf fs d) x ns h st=R:=⟨_,rfl⟩
 have HC:Hid (∀W,Below W3.heap.size W3 W→Calls Tryz.prog 112 #[.pointer (some ⟨E,0,none⟩), .agg #[.int .i64 x.kind, .string x.name, .int .i64 x.place, .slice aC x.cst.length cC, .slice aK x.names.length cK, .slice aI x.kids.length cI], .iface ty y,X5 H caps] W fun e w'=>(∃v,e= .returned v∧Jk w' R.1 v)∧FrH Z E O W3 w'∧St B Z E O fv fs R.2 w'):=fun W hb=>by
  have hf:FrH Z E O W3 W:= .of_below hb HS3.out.hZ
  rw[←hR,Xgp k]
  exact (Xo5 hok ho hx k (HNB.out.inn.below (hb.mono (by omega))) (HH3.out.on hf) (HS3.out.below hb) (HV3.out.below hb) hd).mono fun e w' k=>⟨k.1,hf.trans k.2.1,k.2.2⟩
 rw[hR]
 unfold Ya
 obtain ⟨KK,hKK⟩:∃KK,x.kind=KK:=⟨_,rfl⟩
 rw[hKK] at HC cn0 hW3⊢
 have HBD:Hid (Below W3.heap.size W3 W3.drew):=(Below.refl _ _).drew
 obtain rfl:KK=8:=by omega
 clear hin hh hst hv hx hok ho hR hKK HNB k
 go_enter Tryz.func63,Tryz.ntmps63
 go_wp2_with fail
 (try rw[hW3])
 refine (HC.out _ (by first|exact Below.refl _ _|exact HBD.out)).mono ?_
 rintro e w4 ⟨⟨ev,rfl,hev⟩,hf3,hs3⟩
 have HF:=Xa (HF3.out.trans hf3)
 have HS:=Xa hs3
 have HEV:=Xa hev
 clear hf3 hs3 hev
 go_wp2_with fail
 go_ret
 exact ⟨⟨_,rfl,HEV.out⟩,HF.out,HS.out⟩
set_option maxRecDepth 100000 in
theorem Xrm {B Z E O d:Nat} {fv:Value} {fs:List FN} (hok:okF fs=true) (ho:Qr B E fv fs d) {x:FN} (hx:NodeOk fs x) (k:x.kind=10) {kc kn ki v:Value} {ns:List VN} {H:FuncId} {caps:Array Value} {h:Yc} {st:Xt} {w:World} (hin:FNodeIn B w x kc kn ki) (hh:HandOk B Z E O d fv fs w H caps h) (hst:St B Z E O fv fs st w) (hv:Rep w ns v) (hd:st.1≤d):
  Calls Tryz.prog 63 #[.pointer (some ⟨E,0,none⟩),Ya x kc kn ki,v,X5 H caps] w (Yz B Z E O fv fs (evM (Xf fs d) x ns h st) w):=by
 obtain ⟨_,aC,cC,rfl,_⟩:=id hin.cst
 obtain ⟨_,_,aK,cK,rfl,_⟩:=id hin.names
 obtain ⟨_,_,aI,cI,rfl,_⟩:=id hin.kids
 obtain ⟨ty,y,rfl⟩:=hv.iface
 have hO:=hst.hO
 have hZw:=hst.hZ
 have hEZ:=hst.hEZ
 have hBZ:=hst.hBZ
 have hBE:=hst.ev.hBE
 have hbx:=bx3 w (.pointer (some ⟨E,0,none⟩)) (.int .i64 x.kind) (.string x.name) (.int .i64 x.place) (.slice aC x.cst.length cC) (.slice aK x.names.length cK) (.slice aI x.kids.length cI) (X5 H caps)
 obtain ⟨W3,hW3⟩:∃W3,((w.alloc (.cells #[.pointer (some ⟨E,0,none⟩)] 103)).alloc (.cells #[.int .i64 x.kind, .string x.name, .int .i64 x.place, .slice aC x.cst.length cC, .slice aK x.names.length cK, .slice aI x.kids.length cI] 84)).alloc (.cells #[X5 H caps] 161)=W3:=⟨_,rfl⟩
 rw[hW3] at hbx
 obtain ⟨hb3,ce,cn0,cn1,cn2,cn3,cn4,cn5,ch,hz3⟩:=hbx
 have HB3:=Xa hb3
 have HF3:Hid (FrH Z E O w W3):= .of_below hb3 hst.hZ
 have HNB:Hid (NodeBox B W3 (w.heap.size+1) x (.slice aC x.cst.length cC) (.slice aK x.names.length cK) (.slice aI x.kids.length cI)):=⟨cn0,cn1,cn2,cn3,cn4,cn5,hin.below (hb3.mono (by omega))⟩
 have HS3:Hid (St B Z E O fv fs st W3):=hst.below hb3
 have HV3:=Xa (hv.below hb3)
 have HH3:=Xa (hh.on HF3.out)
 clear hb3
 obtain ⟨R,hR⟩:∃R,evM (Xf fs d) x ns h st=R:=⟨_,rfl⟩
 have HC:Hid (∀W,Below W3.heap.size W3 W→Calls Tryz.prog 114 #[.pointer (some ⟨E,0,none⟩), .agg #[.int .i64 x.kind, .string x.name, .int .i64 x.place, .slice aC x.cst.length cC, .slice aK x.names.length cK, .slice aI x.kids.length cI], .iface ty y,X5 H caps] W fun e w'=>(∃v,e= .returned v∧Jk w' R.1 v)∧FrH Z E O W3 w'∧St B Z E O fv fs R.2 w'):=fun W hb=>by
  have hf:FrH Z E O W3 W:= .of_below hb HS3.out.hZ
  rw[←hR,Xlp k]
  exact (Xkm hok ho hx k (HNB.out.inn.below (hb.mono (by omega))) (HH3.out.on hf) (HS3.out.below hb) (HV3.out.below hb) hd).mono fun e w' k=>⟨k.1,hf.trans k.2.1,k.2.2⟩
 rw[hR]
 unfold Ya
 obtain ⟨KK,hKK⟩:∃KK,x.kind=KK:=⟨_,rfl⟩
 rw[hKK] at HC cn0 hW3⊢
 have HBD:Hid (Below W3.heap.size W3 W3.drew):=(Below.refl _ _).drew
 obtain rfl:KK=10:=by omega
 clear hin hh hst hv hx hok ho hR hKK HNB k
 go_enter Tryz.func63,Tryz.ntmps63
 go_wp2_with fail
 (try rw[hW3])
 refine (HC.out _ (by first|exact Below.refl _ _|exact HBD.out)).mono ?_
 rintro e w4 ⟨⟨ev,rfl,hev⟩,hf3,hs3⟩
 have HF:=Xa (HF3.out.trans hf3)
 have HS:=Xa hs3
 have HEV:=Xa hev
 clear hf3 hs3 hev
 go_wp2_with fail
 go_ret
 exact ⟨⟨_,rfl,HEV.out⟩,HF.out,HS.out⟩
set_option maxRecDepth 100000 in
theorem Xrn {B Z E O d:Nat} {fv:Value} {fs:List FN} (hok:okF fs=true) (ho:Qr B E fv fs d) {x:FN} (hx:NodeOk fs x) (k1:15≤x.kind) (k2:x.kind≤20) {kc kn ki v:Value} {ns:List VN} {H:FuncId} {caps:Array Value} {h:Yc} {st:Xt} {w:World} (hin:FNodeIn B w x kc kn ki) (hh:HandOk B Z E O d fv fs w H caps h) (hst:St B Z E O fv fs st w) (hv:Rep w ns v) (hd:st.1≤d):
  Calls Tryz.prog 63 #[.pointer (some ⟨E,0,none⟩),Ya x kc kn ki,v,X5 H caps] w (Yz B Z E O fv fs (evM (Xf fs d) x ns h st) w):=by
 obtain ⟨_,aC,cC,rfl,_⟩:=id hin.cst
 obtain ⟨_,_,aK,cK,rfl,_⟩:=id hin.names
 obtain ⟨_,_,aI,cI,rfl,_⟩:=id hin.kids
 obtain ⟨ty,y,rfl⟩:=hv.iface
 have hO:=hst.hO
 have hZw:=hst.hZ
 have hEZ:=hst.hEZ
 have hBZ:=hst.hBZ
 have hBE:=hst.ev.hBE
 have hbx:=bx3 w (.pointer (some ⟨E,0,none⟩)) (.int .i64 x.kind) (.string x.name) (.int .i64 x.place) (.slice aC x.cst.length cC) (.slice aK x.names.length cK) (.slice aI x.kids.length cI) (X5 H caps)
 obtain ⟨W3,hW3⟩:∃W3,((w.alloc (.cells #[.pointer (some ⟨E,0,none⟩)] 103)).alloc (.cells #[.int .i64 x.kind, .string x.name, .int .i64 x.place, .slice aC x.cst.length cC, .slice aK x.names.length cK, .slice aI x.kids.length cI] 84)).alloc (.cells #[X5 H caps] 161)=W3:=⟨_,rfl⟩
 rw[hW3] at hbx
 obtain ⟨hb3,ce,cn0,cn1,cn2,cn3,cn4,cn5,ch,hz3⟩:=hbx
 have HB3:=Xa hb3
 have HF3:Hid (FrH Z E O w W3):= .of_below hb3 hst.hZ
 have HNB:Hid (NodeBox B W3 (w.heap.size+1) x (.slice aC x.cst.length cC) (.slice aK x.names.length cK) (.slice aI x.kids.length cI)):=⟨cn0,cn1,cn2,cn3,cn4,cn5,hin.below (hb3.mono (by omega))⟩
 have HS3:Hid (St B Z E O fv fs st W3):=hst.below hb3
 have HV3:=Xa (hv.below hb3)
 have HH3:=Xa (hh.on HF3.out)
 clear hb3
 obtain ⟨R,hR⟩:∃R,evM (Xf fs d) x ns h st=R:=⟨_,rfl⟩
 have HC:Hid (∀W,Below W3.heap.size W3 W→Calls Tryz.prog 115 #[.pointer (some ⟨E,0,none⟩), .agg #[.int .i64 x.kind, .string x.name, .int .i64 x.place, .slice aC x.cst.length cC, .slice aK x.names.length cK, .slice aI x.kids.length cI], .iface ty y,X5 H caps] W fun e w'=>(∃v,e= .returned v∧Jk w' R.1 v)∧FrH Z E O W3 w'∧St B Z E O fv fs R.2 w'):=fun W hb=>by
  have hf:FrH Z E O W3 W:= .of_below hb HS3.out.hZ
  rw[←hR,Xxv (by omega) (by omega)]
  exact (Xkn hok ho hx (by omega) (by omega) (HNB.out.inn.below (hb.mono (by omega))) (HH3.out.on hf) (HS3.out.below hb) (HV3.out.below hb) hd).mono fun e w' k=>⟨k.1,hf.trans k.2.1,k.2.2⟩
 rw[hR]
 unfold Ya
 obtain ⟨KK,hKK⟩:∃KK,x.kind=KK:=⟨_,rfl⟩
 rw[hKK] at HC cn0 hW3⊢
 have HBD:Hid (Below W3.heap.size W3 W3.drew):=(Below.refl _ _).drew
 have hk6:KK=15∨KK=16∨KK=17∨KK=18∨KK=19∨KK=20:=by omega
 clear hin hh hst hv hx hok ho hR hKK HNB k1 k2
 rcases hk6 with rfl|rfl|rfl|rfl|rfl|rfl
 all_goals
  go_enter Tryz.func63,Tryz.ntmps63
  go_wp2_with fail
  (try rw[hW3])
  refine (HC.out _ (by first|exact Below.refl _ _|exact HBD.out)).mono ?_
  rintro e w4 ⟨⟨ev,rfl,hev⟩,hf3,hs3⟩
  have HF:=Xa (HF3.out.trans hf3)
  have HS:=Xa hs3
  have HEV:=Xa hev
  clear hf3 hs3 hev
  go_wp2_with fail
  go_ret
  exact ⟨⟨_,rfl,HEV.out⟩,HF.out,HS.out⟩
set_option maxRecDepth 100000 in
theorem X0i {B Z E O d:Nat} {fv:Value} {fs:List FN} (hok:okF fs=true) (ho:Qr B E fv fs d) {x:FN} (hx:NodeOk fs x) (k:x.kind=21) {kc kn ki v:Value} {ns:List VN} {H:FuncId} {caps:Array Value} {h:Yc} {st:Xt} {w:World} (hin:FNodeIn B w x kc kn ki) (hh:HandOk B Z E O d fv fs w H caps h) (hst:St B Z E O fv fs st w) (hv:Rep w ns v) (hd:st.1≤d):
  Calls Tryz.prog 63 #[.pointer (some ⟨E,0,none⟩),Ya x kc kn ki,v,X5 H caps] w (Yz B Z E O fv fs (evM (Xf fs d) x ns h st) w):=by
 obtain ⟨_,aC,cC,rfl,_⟩:=id hin.cst
 obtain ⟨_,_,aK,cK,rfl,_⟩:=id hin.names
 obtain ⟨_,_,aI,cI,rfl,_⟩:=id hin.kids
 obtain ⟨ty,y,rfl⟩:=hv.iface
 have hO:=hst.hO
 have hZw:=hst.hZ
 have hEZ:=hst.hEZ
 have hBZ:=hst.hBZ
 have hBE:=hst.ev.hBE
 have hbx:=bx3 w (.pointer (some ⟨E,0,none⟩)) (.int .i64 x.kind) (.string x.name) (.int .i64 x.place) (.slice aC x.cst.length cC) (.slice aK x.names.length cK) (.slice aI x.kids.length cI) (X5 H caps)
 obtain ⟨W3,hW3⟩:∃W3,((w.alloc (.cells #[.pointer (some ⟨E,0,none⟩)] 103)).alloc (.cells #[.int .i64 x.kind, .string x.name, .int .i64 x.place, .slice aC x.cst.length cC, .slice aK x.names.length cK, .slice aI x.kids.length cI] 84)).alloc (.cells #[X5 H caps] 161)=W3:=⟨_,rfl⟩
 rw[hW3] at hbx
 obtain ⟨hb3,ce,cn0,cn1,cn2,cn3,cn4,cn5,ch,hz3⟩:=hbx
 have HB3:=Xa hb3
 have HF3:Hid (FrH Z E O w W3):= .of_below hb3 hst.hZ
 have HNB:Hid (NodeBox B W3 (w.heap.size+1) x (.slice aC x.cst.length cC) (.slice aK x.names.length cK) (.slice aI x.kids.length cI)):=⟨cn0,cn1,cn2,cn3,cn4,cn5,hin.below (hb3.mono (by omega))⟩
 have HS3:Hid (St B Z E O fv fs st W3):=hst.below hb3
 have HV3:=Xa (hv.below hb3)
 have HH3:=Xa (hh.on HF3.out)
 clear hb3
 obtain ⟨R,hR⟩:∃R,evM (Xf fs d) x ns h st=R:=⟨_,rfl⟩
 have HC:Hid (∀W,Below W3.heap.size W3 W→Calls Tryz.prog 116 #[.pointer (some ⟨E,0,none⟩), .agg #[.int .i64 x.kind, .string x.name, .int .i64 x.place, .slice aC x.cst.length cC, .slice aK x.names.length cK, .slice aI x.kids.length cI], .iface ty y,X5 H caps] W fun e w'=>(∃v,e= .returned v∧Jk w' R.1 v)∧FrH Z E O W3 w'∧St B Z E O fv fs R.2 w'):=fun W hb=>by
  have hf:FrH Z E O W3 W:= .of_below hb HS3.out.hZ
  rw[←hR,Xxw k]
  exact (Xr1 hok ho hx k (HNB.out.inn.below (hb.mono (by omega))) (HH3.out.on hf) (HS3.out.below hb) (HV3.out.below hb) hd).mono fun e w' k=>⟨k.1,hf.trans k.2.1,k.2.2⟩
 rw[hR]
 unfold Ya
 obtain ⟨KK,hKK⟩:∃KK,x.kind=KK:=⟨_,rfl⟩
 rw[hKK] at HC cn0 hW3⊢
 have HBD:Hid (Below W3.heap.size W3 W3.drew):=(Below.refl _ _).drew
 obtain rfl:KK=21:=by omega
 clear hin hh hst hv hx hok ho hR hKK HNB k
 go_enter Tryz.func63,Tryz.ntmps63
 go_wp2_with fail
 (try rw[hW3])
 refine (HC.out _ (by first|exact Below.refl _ _|exact HBD.out)).mono ?_
 rintro e w4 ⟨⟨ev,rfl,hev⟩,hf3,hs3⟩
 have HF:=Xa (HF3.out.trans hf3)
 have HS:=Xa hs3
 have HEV:=Xa hev
 clear hf3 hs3 hev
 go_wp2_with fail
 go_ret
 exact ⟨⟨_,rfl,HEV.out⟩,HF.out,HS.out⟩
set_option maxRecDepth 100000 in
theorem X27 {B Z E O d:Nat} {fv:Value} {fs:List FN} (hok:okF fs=true) (ho:Qr B E fv fs d) {x:FN} (hx:NodeOk fs x) (k:x.kind=22) {kc kn ki v:Value} {ns:List VN} {H:FuncId} {caps:Array Value} {h:Yc} {st:Xt} {w:World} (hin:FNodeIn B w x kc kn ki) (hh:HandOk B Z E O d fv fs w H caps h) (hst:St B Z E O fv fs st w) (hv:Rep w ns v) (hd:st.1≤d):
  Calls Tryz.prog 63 #[.pointer (some ⟨E,0,none⟩),Ya x kc kn ki,v,X5 H caps] w (Yz B Z E O fv fs (evM (Xf fs d) x ns h st) w):=by
 obtain ⟨_,aC,cC,rfl,_⟩:=id hin.cst
 obtain ⟨_,_,aK,cK,rfl,_⟩:=id hin.names
 obtain ⟨_,_,aI,cI,rfl,_⟩:=id hin.kids
 obtain ⟨ty,y,rfl⟩:=hv.iface
 have hO:=hst.hO
 have hZw:=hst.hZ
 have hEZ:=hst.hEZ
 have hBZ:=hst.hBZ
 have hBE:=hst.ev.hBE
 have hbx:=bx3 w (.pointer (some ⟨E,0,none⟩)) (.int .i64 x.kind) (.string x.name) (.int .i64 x.place) (.slice aC x.cst.length cC) (.slice aK x.names.length cK) (.slice aI x.kids.length cI) (X5 H caps)
 obtain ⟨W3,hW3⟩:∃W3,((w.alloc (.cells #[.pointer (some ⟨E,0,none⟩)] 103)).alloc (.cells #[.int .i64 x.kind, .string x.name, .int .i64 x.place, .slice aC x.cst.length cC, .slice aK x.names.length cK, .slice aI x.kids.length cI] 84)).alloc (.cells #[X5 H caps] 161)=W3:=⟨_,rfl⟩
 rw[hW3] at hbx
 obtain ⟨hb3,ce,cn0,cn1,cn2,cn3,cn4,cn5,ch,hz3⟩:=hbx
 have HB3:=Xa hb3
 have HF3:Hid (FrH Z E O w W3):= .of_below hb3 hst.hZ
 have HNB:Hid (NodeBox B W3 (w.heap.size+1) x (.slice aC x.cst.length cC) (.slice aK x.names.length cK) (.slice aI x.kids.length cI)):=⟨cn0,cn1,cn2,cn3,cn4,cn5,hin.below (hb3.mono (by omega))⟩
 have HS3:Hid (St B Z E O fv fs st W3):=hst.below hb3
 have HV3:=Xa (hv.below hb3)
 have HH3:=Xa (hh.on HF3.out)
 clear hb3
 obtain ⟨R,hR⟩:∃R,evM (Xf fs d) x ns h st=R:=⟨_,rfl⟩
 have HC:Hid (∀W,Below W3.heap.size W3 W→Calls Tryz.prog 117 #[.pointer (some ⟨E,0,none⟩), .agg #[.int .i64 x.kind, .string x.name, .int .i64 x.place, .slice aC x.cst.length cC, .slice aK x.names.length cK, .slice aI x.kids.length cI], .iface ty y,X5 H caps] W fun e w'=>(∃v,e= .returned v∧Jk w' R.1 v)∧FrH Z E O W3 w'∧St B Z E O fv fs R.2 w'):=fun W hb=>by
  have hf:FrH Z E O W3 W:= .of_below hb HS3.out.hZ
  rw[←hR,X2k k]
  exact (Xuz hok ho hx k (HNB.out.inn.below (hb.mono (by omega))) (HH3.out.on hf) (HS3.out.below hb) (HV3.out.below hb) hd).mono fun e w' k=>⟨k.1,hf.trans k.2.1,k.2.2⟩
 rw[hR]
 unfold Ya
 obtain ⟨KK,hKK⟩:∃KK,x.kind=KK:=⟨_,rfl⟩
 rw[hKK] at HC cn0 hW3⊢
 have HBD:Hid (Below W3.heap.size W3 W3.drew):=(Below.refl _ _).drew
 obtain rfl:KK=22:=by omega
 clear hin hh hst hv hx hok ho hR hKK HNB k
 go_enter Tryz.func63,Tryz.ntmps63
 go_wp2_with fail
 (try rw[hW3])
 refine (HC.out _ (by first|exact Below.refl _ _|exact HBD.out)).mono ?_
 rintro e w4 ⟨⟨ev,rfl,hev⟩,hf3,hs3⟩
 have HF:=Xa (HF3.out.trans hf3)
 have HS:=Xa hs3
 have HEV:=Xa hev
 clear hf3 hs3 hev
 go_wp2_with fail
 go_ret
 exact ⟨⟨_,rfl,HEV.out⟩,HF.out,HS.out⟩
set_option maxRecDepth 100000 in
theorem X0j {B Z E O d:Nat} {fv:Value} {fs:List FN} (hok:okF fs=true) (ho:Qr B E fv fs d) {x:FN} (hx:NodeOk fs x) (k:x.kind=23) {kc kn ki v:Value} {ns:List VN} {H:FuncId} {caps:Array Value} {h:Yc} {st:Xt} {w:World} (hin:FNodeIn B w x kc kn ki) (hh:HandOk B Z E O d fv fs w H caps h) (hst:St B Z E O fv fs st w) (hv:Rep w ns v) (hd:st.1≤d):
  Calls Tryz.prog 63 #[.pointer (some ⟨E,0,none⟩),Ya x kc kn ki,v,X5 H caps] w (Yz B Z E O fv fs (evM (Xf fs d) x ns h st) w):=by
 obtain ⟨_,aC,cC,rfl,_⟩:=id hin.cst
 obtain ⟨_,_,aK,cK,rfl,_⟩:=id hin.names
 obtain ⟨_,_,aI,cI,rfl,_⟩:=id hin.kids
 obtain ⟨ty,y,rfl⟩:=hv.iface
 have hO:=hst.hO
 have hZw:=hst.hZ
 have hEZ:=hst.hEZ
 have hBZ:=hst.hBZ
 have hBE:=hst.ev.hBE
 have hbx:=bx3 w (.pointer (some ⟨E,0,none⟩)) (.int .i64 x.kind) (.string x.name) (.int .i64 x.place) (.slice aC x.cst.length cC) (.slice aK x.names.length cK) (.slice aI x.kids.length cI) (X5 H caps)
 obtain ⟨W3,hW3⟩:∃W3,((w.alloc (.cells #[.pointer (some ⟨E,0,none⟩)] 103)).alloc (.cells #[.int .i64 x.kind, .string x.name, .int .i64 x.place, .slice aC x.cst.length cC, .slice aK x.names.length cK, .slice aI x.kids.length cI] 84)).alloc (.cells #[X5 H caps] 161)=W3:=⟨_,rfl⟩
 rw[hW3] at hbx
 obtain ⟨hb3,ce,cn0,cn1,cn2,cn3,cn4,cn5,ch,hz3⟩:=hbx
 have HB3:=Xa hb3
 have HF3:Hid (FrH Z E O w W3):= .of_below hb3 hst.hZ
 have HNB:Hid (NodeBox B W3 (w.heap.size+1) x (.slice aC x.cst.length cC) (.slice aK x.names.length cK) (.slice aI x.kids.length cI)):=⟨cn0,cn1,cn2,cn3,cn4,cn5,hin.below (hb3.mono (by omega))⟩
 have HS3:Hid (St B Z E O fv fs st W3):=hst.below hb3
 have HV3:=Xa (hv.below hb3)
 have HH3:=Xa (hh.on HF3.out)
 clear hb3
 obtain ⟨R,hR⟩:∃R,evM (Xf fs d) x ns h st=R:=⟨_,rfl⟩
 have HC:Hid (∀W,Below W3.heap.size W3 W→Calls Tryz.prog 118 #[.pointer (some ⟨E,0,none⟩), .agg #[.int .i64 x.kind, .string x.name, .int .i64 x.place, .slice aC x.cst.length cC, .slice aK x.names.length cK, .slice aI x.kids.length cI], .iface ty y,X5 H caps] W fun e w'=>(∃v,e= .returned v∧Jk w' R.1 v)∧FrH Z E O W3 w'∧St B Z E O fv fs R.2 w'):=fun W hb=>by
  have hf:FrH Z E O W3 W:= .of_below hb HS3.out.hZ
  rw[←hR,Xxx k]
  exact (Xr8 hok ho hx (hx.one (.inr k)) (HNB.out.inn.below (hb.mono (by omega))) (HH3.out.on hf) (HS3.out.below hb) (HV3.out.below hb) hd).mono fun e w' k=>⟨k.1,hf.trans k.2.1,k.2.2⟩
 rw[hR]
 unfold Ya
 obtain ⟨KK,hKK⟩:∃KK,x.kind=KK:=⟨_,rfl⟩
 rw[hKK] at HC cn0 hW3⊢
 have HBD:Hid (Below W3.heap.size W3 W3.drew):=(Below.refl _ _).drew
 obtain rfl:KK=23:=by omega
 clear hin hh hst hv hx hok ho hR hKK HNB k
 go_enter Tryz.func63,Tryz.ntmps63
 go_wp2_with fail
 (try rw[hW3])
 refine (HC.out _ (by first|exact Below.refl _ _|exact HBD.out)).mono ?_
 rintro e w4 ⟨⟨ev,rfl,hev⟩,hf3,hs3⟩
 have HF:=Xa (HF3.out.trans hf3)
 have HS:=Xa hs3
 have HEV:=Xa hev
 clear hf3 hs3 hev
 go_wp2_with fail
 go_ret
 exact ⟨⟨_,rfl,HEV.out⟩,HF.out,HS.out⟩

set_option maxRecDepth 100000 in
theorem Xt2 {B Z E O d:Nat} {fv:Value} {fs:List FN} (hok:okF fs=true) (ho:Qr B E fv fs d) {x:FN} (hx:NodeOk fs x) (k:x.kind=14) {kc kn ki v:Value} {ns:List VN} {H:FuncId} {caps:Array Value} {h:Yc} {st:Xt} {w:World} (hin:FNodeIn B w x kc kn ki) (hh:HandOk B Z E O d fv fs w H caps h) (hst:St B Z E O fv fs st w) (hv:Rep w ns v) (hd:st.1≤d):
  Calls Tryz.prog 63 #[.pointer (some ⟨E,0,none⟩),Ya x kc kn ki,v,X5 H caps] w (Yz B Z E O fv fs (evM (Xf fs d) x ns h st) w):=by
 obtain ⟨_,aC,cC,rfl,_⟩:=id hin.cst
 obtain ⟨_,_,aK,cK,rfl,_⟩:=id hin.names
 obtain ⟨_,_,aI,cI,rfl,_⟩:=id hin.kids
 obtain ⟨ty,y,rfl⟩:=hv.iface
 have hO:=hst.hO
 have hZw:=hst.hZ
 have hEZ:=hst.hEZ
 have hBZ:=hst.hBZ
 have hBE:=hst.ev.hBE
 have hbx:=bx3 w (.pointer (some ⟨E,0,none⟩)) (.int .i64 x.kind) (.string x.name) (.int .i64 x.place) (.slice aC x.cst.length cC) (.slice aK x.names.length cK) (.slice aI x.kids.length cI) (X5 H caps)
 obtain ⟨W3,hW3⟩:∃W3,((w.alloc (.cells #[.pointer (some ⟨E,0,none⟩)] 103)).alloc (.cells #[.int .i64 x.kind, .string x.name, .int .i64 x.place, .slice aC x.cst.length cC, .slice aK x.names.length cK, .slice aI x.kids.length cI] 84)).alloc (.cells #[X5 H caps] 161)=W3:=⟨_,rfl⟩
 rw[hW3] at hbx
 obtain ⟨hb3,ce,cn0,cn1,cn2,cn3,cn4,cn5,ch,hz3⟩:=hbx
 have HB3:=Xa hb3
 have HF3:Hid (FrH Z E O w W3):= .of_below hb3 hst.hZ
 have HNB:Hid (NodeBox B W3 (w.heap.size+1) x (.slice aC x.cst.length cC) (.slice aK x.names.length cK) (.slice aI x.kids.length cI)):=⟨cn0,cn1,cn2,cn3,cn4,cn5,hin.below (hb3.mono (by omega))⟩
 have HS3:Hid (St B Z E O fv fs st W3):=hst.below hb3
 have HV3:=Xa (hv.below hb3)
 have HH3:=Xa (hh.on HF3.out)
 clear hb3
 obtain ⟨R,hR⟩:∃R,evM (Xf fs d) x ns h st=R:=⟨_,rfl⟩
 have HE:Hid (R=(0,st)):=by rw[Hid,←hR];exact Xpb k
 rw[hR]
 unfold Ya
 obtain ⟨KK,hKK⟩:∃KK,x.kind=KK:=⟨_,rfl⟩
 rw[hKK] at cn0 hW3⊢
 obtain rfl:KK=14:=by omega
 clear hin hh hst hv hx hok ho hR hKK HNB k
 go_enter Tryz.func63,Tryz.ntmps63
 go_wp2_with fail
 try rw[hW3]
 go_ret
 exact ⟨⟨_,rfl, .inl ⟨by rw[HE.out],rfl⟩⟩,HF3.out,by rw[HE.out];exact HS3.out⟩
set_option maxRecDepth 100000 in
theorem Xwk {B Z E O d:Nat} {fv:Value} {fs:List FN} (hok:okF fs=true) (ho:Qr B E fv fs d) {x:FN} (hx:NodeOk fs x) (k:x.kind=4) {kc kn ki v:Value} {ns:List VN} {H:FuncId} {caps:Array Value} {h:Yc} {st:Xt} {w:World} (hin:FNodeIn B w x kc kn ki) (hh:HandOk B Z E O d fv fs w H caps h) (hst:St B Z E O fv fs st w) (hv:Rep w ns v) (hd:st.1≤d):
  Calls Tryz.prog 63 #[.pointer (some ⟨E,0,none⟩),Ya x kc kn ki,v,X5 H caps] w (Yz B Z E O fv fs (evM (Xf fs d) x ns h st) w):=by
 obtain ⟨_,aC,cC,rfl,_⟩:=id hin.cst
 obtain ⟨_,_,aK,cK,rfl,_⟩:=id hin.names
 obtain ⟨_,_,aI,cI,rfl,_⟩:=id hin.kids
 obtain ⟨ty,y,rfl⟩:=hv.iface
 have hO:=hst.hO
 have hZw:=hst.hZ
 have hEZ:=hst.hEZ
 have hBZ:=hst.hBZ
 have hBE:=hst.ev.hBE
 have hbx:=bx3 w (.pointer (some ⟨E,0,none⟩)) (.int .i64 x.kind) (.string x.name) (.int .i64 x.place) (.slice aC x.cst.length cC) (.slice aK x.names.length cK) (.slice aI x.kids.length cI) (X5 H caps)
 obtain ⟨W3,hW3⟩:∃W3,((w.alloc (.cells #[.pointer (some ⟨E,0,none⟩)] 103)).alloc (.cells #[.int .i64 x.kind, .string x.name, .int .i64 x.place, .slice aC x.cst.length cC, .slice aK x.names.length cK, .slice aI x.kids.length cI] 84)).alloc (.cells #[X5 H caps] 161)=W3:=⟨_,rfl⟩
 rw[hW3] at hbx
 obtain ⟨hb3,ce,cn0,cn1,cn2,cn3,cn4,cn5,ch,hz3⟩:=hbx
 have HB3:=Xa hb3
 have HF3:Hid (FrH Z E O w W3):= .of_below hb3 hst.hZ
 have HNB:Hid (NodeBox B W3 (w.heap.size+1) x (.slice aC x.cst.length cC) (.slice aK x.names.length cK) (.slice aI x.kids.length cI)):=⟨cn0,cn1,cn2,cn3,cn4,cn5,hin.below (hb3.mono (by omega))⟩
 have HS3:Hid (St B Z E O fv fs st W3):=hst.below hb3
 have HV3:=Xa (hv.below hb3)
 have HH3:=Xa (hh.on HF3.out)
 clear hb3
 obtain ⟨R,hR⟩:∃R,evM (Xf fs d) x ns h st=R:=⟨_,rfl⟩
 have HC:Hid (∀W,Below W3.heap.size W3 W→Calls Tryz.prog 109 #[.iface ty y,X5 H caps] W fun e w'=>(∃v,e= .returned v∧Jk w' R.1 v)∧FrH Z E O W3 w'∧St B Z E O fv fs R.2 w'):=fun W hb=>by
  have hf:FrH Z E O W3 W:= .of_below hb HS3.out.hZ
  rw[←hR,Xs3 k]
  exact (Xpu (HH3.out.on hf) (HS3.out.below hb) (HV3.out.below hb) hd).mono fun e w' k=>⟨k.1,hf.trans k.2.1,k.2.2⟩
 rw[hR]
 unfold Ya
 obtain ⟨KK,hKK⟩:∃KK,x.kind=KK:=⟨_,rfl⟩
 rw[hKK] at cn0 hW3⊢
 have HSX:Hid (∀Y,FrH Z E O W3 Y→(Y.cell? ⟨w.heap.size,0,none⟩=some (.pointer (some ⟨E,0,none⟩))∧Y.cell? ⟨w.heap.size+1,0,none⟩=some (.int .i64 KK)∧Y.cell? ⟨w.heap.size+1,1,none⟩=some (.string x.name)∧Y.cell? ⟨w.heap.size+1,2,none⟩=some (.int .i64 x.place)∧Y.cell? ⟨w.heap.size+1,3,none⟩=some (.slice aC x.cst.length cC)∧Y.cell? ⟨w.heap.size+1,4,none⟩=some (.slice aK x.names.length cK)∧Y.cell? ⟨w.heap.size+1,5,none⟩=some (.slice aI x.kids.length cI)∧Y.cell? ⟨w.heap.size+2,0,none⟩=some (.func (.func H) #[] caps))):=fun Y hY=>⟨hY.cell _ _ _ (by omega) (by omega) (by intro e;cases e) ce,hY.cell _ _ _ (by omega) (by omega) (by intro e;cases e) cn0,hY.cell _ _ _ (by omega) (by omega) (by intro e;cases e) cn1,hY.cell _ _ _ (by omega) (by omega) (by intro e;cases e) cn2,hY.cell _ _ _ (by omega) (by omega) (by intro e;cases e) cn3,hY.cell _ _ _ (by omega) (by omega) (by intro e;cases e) cn4,hY.cell _ _ _ (by omega) (by omega) (by intro e;cases e) cn5,hY.cell _ _ _ (by omega) (by omega) (by intro e;cases e) ch⟩
 have HFD:Hid (FrH Z E O W3 W3.drew):= .of_below (Below.refl _ _).drew HS3.out.hZ
 have HBD:Hid (Below W3.heap.size W3 W3.drew):=(Below.refl _ _).drew
 obtain rfl:KK=4:=by omega
 clear hin hh hst hv hx hok ho hR hKK HNB k
 go_enter Tryz.func63,Tryz.ntmps63
 go_wp2_with fail
 try rw[hW3]
 have HW3:=Xa hW3
 clear hW3
 refine (HC.out _ (by first|exact Below.refl _ _|exact HBD.out)).mono ?_
 rintro e w4 ⟨⟨ev,rfl,hev⟩,hf3,hs3⟩
 have HF:=Xa (HF3.out.trans hf3)
 have HS:=Xa hs3
 have HEV:=Xa hev
 clear hf3 hs3 hev
 go_wp2_with fail
 go_ret
 exact ⟨⟨_,rfl,HEV.out⟩,HF.out,HS.out⟩
set_option maxRecDepth 100000 in
theorem Xwl {B Z E O d:Nat} {fv:Value} {fs:List FN} (hok:okF fs=true) (ho:Qr B E fv fs d) {x:FN} (hx:NodeOk fs x) (k:x.kind=6) {kc kn ki v:Value} {ns:List VN} {H:FuncId} {caps:Array Value} {h:Yc} {st:Xt} {w:World} (hin:FNodeIn B w x kc kn ki) (hh:HandOk B Z E O d fv fs w H caps h) (hst:St B Z E O fv fs st w) (hv:Rep w ns v) (hd:st.1≤d):
  Calls Tryz.prog 63 #[.pointer (some ⟨E,0,none⟩),Ya x kc kn ki,v,X5 H caps] w (Yz B Z E O fv fs (evM (Xf fs d) x ns h st) w):=by
 obtain ⟨_,aC,cC,rfl,_⟩:=id hin.cst
 obtain ⟨_,_,aK,cK,rfl,_⟩:=id hin.names
 obtain ⟨_,_,aI,cI,rfl,_⟩:=id hin.kids
 obtain ⟨ty,y,rfl⟩:=hv.iface
 have hO:=hst.hO
 have hZw:=hst.hZ
 have hEZ:=hst.hEZ
 have hBZ:=hst.hBZ
 have hBE:=hst.ev.hBE
 have hbx:=bx3 w (.pointer (some ⟨E,0,none⟩)) (.int .i64 x.kind) (.string x.name) (.int .i64 x.place) (.slice aC x.cst.length cC) (.slice aK x.names.length cK) (.slice aI x.kids.length cI) (X5 H caps)
 obtain ⟨W3,hW3⟩:∃W3,((w.alloc (.cells #[.pointer (some ⟨E,0,none⟩)] 103)).alloc (.cells #[.int .i64 x.kind, .string x.name, .int .i64 x.place, .slice aC x.cst.length cC, .slice aK x.names.length cK, .slice aI x.kids.length cI] 84)).alloc (.cells #[X5 H caps] 161)=W3:=⟨_,rfl⟩
 rw[hW3] at hbx
 obtain ⟨hb3,ce,cn0,cn1,cn2,cn3,cn4,cn5,ch,hz3⟩:=hbx
 have HB3:=Xa hb3
 have HF3:Hid (FrH Z E O w W3):= .of_below hb3 hst.hZ
 have HNB:Hid (NodeBox B W3 (w.heap.size+1) x (.slice aC x.cst.length cC) (.slice aK x.names.length cK) (.slice aI x.kids.length cI)):=⟨cn0,cn1,cn2,cn3,cn4,cn5,hin.below (hb3.mono (by omega))⟩
 have HS3:Hid (St B Z E O fv fs st W3):=hst.below hb3
 have HV3:=Xa (hv.below hb3)
 have HH3:=Xa (hh.on HF3.out)
 clear hb3
 obtain ⟨R,hR⟩:∃R,evM (Xf fs d) x ns h st=R:=⟨_,rfl⟩
 have h2:=hx.two (by omega)
 obtain ⟨kb,ko,kcap,ek,hkb,k4⟩:=HNB.out.inn.kids.get (j:=0) (by omega)
 injection ek with ek1 ek2 ek3
 subst ek1 ek3
 obtain ⟨K0,hK0⟩:∃K0,Xi x 0=K0:=⟨_,rfl⟩
 obtain ⟨K1,hK1⟩:∃K1,Xi x 1=K1:=⟨_,rfl⟩
 have k5:W3.cell? ⟨kb,ko,none⟩=some (.int .i64 K0):=by rw[←hK0];unfold Xi;simpa using k4
 have HHD:=Xa (Xyt hok ho hx h2 HH3.out (Nat.le_refl _) hBE (by omega) (eb:=w.heap.size) (nb:=w.heap.size+1) (hb:=w.heap.size+2) ⟨by omega,by omega⟩ ⟨by omega,by omega⟩ ⟨by omega,by omega⟩ ce HNB.out ch)
 have HC:Hid (∀W,Below W3.heap.size W3 W→Calls Tryz.prog 110 #[.pointer (some ⟨E,0,none⟩), .int .i64 K0, .iface ty y,X5 111 #[.pointer (some ⟨w.heap.size,0,none⟩), .pointer (some ⟨w.heap.size+1,0,none⟩), .pointer (some ⟨w.heap.size+2,0,none⟩)]] W fun e w'=>(∃v,e= .returned v∧Jk w' R.1 v)∧FrH Z E O W3 w'∧St B Z E O fv fs R.2 w'):=fun W hb=>by
  rw[←hR,Xs4 k,←hK0]
  exact Q5 hok ho (hx.kid 0 (by omega)) HHD.out HS3.out HV3.out hd hd hb
 rw[hR]
 unfold Ya
 obtain ⟨KK,hKK⟩:∃KK,x.kind=KK:=⟨_,rfl⟩
 rw[hKK] at cn0 hW3⊢
 have hlp:0<x.kids.length:=by omega
 have hlp2:(0:Int)<(x.kids.length:Int):=by omega
 have lkb:kb<w.heap.size:=by omega
 obtain rfl:KK=6:=by omega
 clear hin hh hst hv hx hok ho hR hKK HNB hK0 hK1 k4 h2 HHD k
 go_enter Tryz.func63,Tryz.ntmps63
 go_wp2_with fail
 (try rw[hW3])
 (try rw[hW3] at *)
 go_region_law (refine Jg (by rfl) 110 _ _ _ _ _ _ _ _ (by rfl) (.pointer (some ⟨E,0,none⟩)) (.int .i64 K0) (.iface ty y) (X5 111 #[.pointer (some ⟨w.heap.size,0,none⟩), .pointer (some ⟨w.heap.size+1,0,none⟩), .pointer (some ⟨w.heap.size+2,0,none⟩)]) (by rfl) (by rfl) (by rfl) (by rfl) (J4 _ _ _ _) (HC.out _ (by first|exact Below.refl _ _|exact (Below.refl _ _).drew)) ?_;rintro e w4 ⟨⟨ev,rfl,hev⟩,hf3,hs3⟩;refine ⟨_,rfl, ?_⟩)
 all_goals
  have HF:=Xa (HF3.out.trans hf3)
  have HS:=Xa hs3
  have HEV:=Xa hev
  clear hf3 hs3 hev
  go_wp2_with fail
  go_ret
  exact ⟨⟨_,rfl,HEV.out⟩,HF.out,HS.out⟩

set_option maxRecDepth 100000 in
theorem Xun {B Z E O d:Nat} {fv:Value} {fs:List FN} (hok:okF fs=true) (ho:Qr B E fv fs d) {x:FN} (hx:NodeOk fs x) (k:x.kind=7) {kc kn ki v:Value} {ns:List VN} {H:FuncId} {caps:Array Value} {h:Yc} {st:Xt} {w:World} (hin:FNodeIn B w x kc kn ki) (hh:HandOk B Z E O d fv fs w H caps h) (hst:St B Z E O fv fs st w) (hv:Rep w ns v) (hd:st.1≤d):
  Calls Tryz.prog 63 #[.pointer (some ⟨E,0,none⟩),Ya x kc kn ki,v,X5 H caps] w (Yz B Z E O fv fs (evM (Xf fs d) x ns h st) w):=by
 obtain ⟨_,aC,cC,rfl,_⟩:=id hin.cst
 obtain ⟨_,_,aK,cK,rfl,_⟩:=id hin.names
 obtain ⟨_,_,aI,cI,rfl,_⟩:=id hin.kids
 obtain ⟨ty,y,rfl⟩:=hv.iface
 have hO:=hst.hO
 have hZw:=hst.hZ
 have hEZ:=hst.hEZ
 have hBZ:=hst.hBZ
 have hBE:=hst.ev.hBE
 have hbx:=bx3 w (.pointer (some ⟨E,0,none⟩)) (.int .i64 x.kind) (.string x.name) (.int .i64 x.place) (.slice aC x.cst.length cC) (.slice aK x.names.length cK) (.slice aI x.kids.length cI) (X5 H caps)
 obtain ⟨W3,hW3⟩:∃W3,((w.alloc (.cells #[.pointer (some ⟨E,0,none⟩)] 103)).alloc (.cells #[.int .i64 x.kind, .string x.name, .int .i64 x.place, .slice aC x.cst.length cC, .slice aK x.names.length cK, .slice aI x.kids.length cI] 84)).alloc (.cells #[X5 H caps] 161)=W3:=⟨_,rfl⟩
 rw[hW3] at hbx
 obtain ⟨hb3,ce,cn0,cn1,cn2,cn3,cn4,cn5,ch,hz3⟩:=hbx
 have HB3:=Xa hb3
 have HF3:Hid (FrH Z E O w W3):= .of_below hb3 hst.hZ
 have HNB:Hid (NodeBox B W3 (w.heap.size+1) x (.slice aC x.cst.length cC) (.slice aK x.names.length cK) (.slice aI x.kids.length cI)):=⟨cn0,cn1,cn2,cn3,cn4,cn5,hin.below (hb3.mono (by omega))⟩
 have HS3:Hid (St B Z E O fv fs st W3):=hst.below hb3
 have HV3:=Xa (hv.below hb3)
 have HH3:=Xa (hh.on HF3.out)
 clear hb3
 obtain ⟨R,hR⟩:∃R,evM (Xf fs d) x ns h st=R:=⟨_,rfl⟩
 have h2:=hx.two (by omega)
 obtain ⟨kb,ko,kcap,ek,hkb,k4⟩:=HNB.out.inn.kids.get (j:=0) (by omega)
 injection ek with ek1 ek2 ek3
 subst ek1 ek3
 obtain ⟨K0,hK0⟩:∃K0,Xi x 0=K0:=⟨_,rfl⟩
 obtain ⟨K1,hK1⟩:∃K1,Xi x 1=K1:=⟨_,rfl⟩
 have k5:W3.cell? ⟨kb,ko,none⟩=some (.int .i64 K0):=by rw[←hK0];unfold Xi;simpa using k4
 obtain ⟨kb2,ko2,kcap2,ek2,hkb2,k42⟩:=HNB.out.inn.kids.get (j:=1) (by omega)
 injection ek2 with eb1 eb2 eb3
 injection eb1 with eb1
 injection eb1 with eb1 eb4 eb5
 clear eb2 eb3 eb5
 subst eb1 eb4
 have k6:W3.cell? ⟨kb,ko+1,none⟩=some (.int .i64 K1):=by rw[←hK1];exact k42
 obtain ⟨R0,hR0⟩:∃R0,Xq (Xf fs d) (Xi x 0) ns h st=R0:=⟨_,rfl⟩
 have hRC:R=Gv (Xf fs d) x ns h st:=by rw[←hR,Xpc k]
 have HQ0:Hid (R0.1≠0→R=R0):=fun e=>by rw[hRC];unfold Gv;rw[hR0,if_neg e]
 have HQ1:Hid (R0.1=0→R=Xq (Xf fs d) (Xi x 1) ns h R0.2):=fun e=>by rw[hRC];unfold Gv;rw[hR0,if_pos e]
 have hle:R0.2.1≤st.1:=by rw[←hR0];exact Xbu hok d hh.le _ hv.1 st
 have HC0:Hid (∀W,Below W3.heap.size W3 W→Calls Tryz.prog 110 #[.pointer (some ⟨E,0,none⟩), .int .i64 K0, .iface ty y,X5 H caps] W fun e w'=>(∃v,e= .returned v∧Jk w' R0.1 v)∧FrH Z E O W3 w'∧St B Z E O fv fs R0.2 w'):=fun W hb=>by
  rw[←hR0,←hK0]
  exact Q5 hok ho (hx.kid 0 (by omega)) HH3.out HS3.out HV3.out hd hd hb
 have HC1:Hid (R0.1=0→∀w1,FrH Z E O W3 w1→St B Z E O fv fs R0.2 w1→∀W,Below w1.heap.size w1 W→Calls Tryz.prog 110 #[.pointer (some ⟨E,0,none⟩), .int .i64 K1, .iface ty y,X5 H caps] W fun e w'=>(∃v,e= .returned v∧Jk w' R.1 v)∧FrH Z E O w1 w'∧St B Z E O fv fs R.2 w'):=fun e0 w1 hf1 hs1 W hb=>by
  rw[HQ1.out e0,←hK1]
  exact Q5 hok ho (hx.kid 1 (by omega)) (HH3.out.on hf1) hs1 (HV3.out.reads (HS3.out.reads hf1)) (by omega) (by omega) hb
 rw[hR]
 unfold Ya
 obtain ⟨KK,hKK⟩:∃KK,x.kind=KK:=⟨_,rfl⟩
 rw[hKK] at cn0 hW3⊢
 have hlp:0<x.kids.length:=by omega
 have hlp2:(0:Int)<(x.kids.length:Int):=by omega
 have hlp3:1<x.kids.length:=by omega
 have hlp4:(1:Int)<(x.kids.length:Int):=by omega
 have lkb:kb<w.heap.size:=by omega
 have HCE:Hid (∀Y,FrH Z E O W3 Y→Y.cell? ⟨w.heap.size,0,none⟩=some (.pointer (some ⟨E,0,none⟩))∧Y.cell? ⟨w.heap.size+1,5,none⟩=some (.slice (some ⟨kb,ko,none⟩) x.kids.length cI)∧Y.cell? ⟨w.heap.size+2,0,none⟩=some (X5 H caps)∧Y.cell? ⟨kb,ko+1,none⟩=some (.int .i64 K1)):=fun Y hY=>⟨hY.cell _ _ _ (by omega) (by omega) (by intro e;cases e) ce,hY.cell _ _ _ (by omega) (by omega) (by intro e;cases e) cn5,hY.cell _ _ _ (by omega) (by omega) (by intro e;cases e) ch,hY.cell _ _ _ (by omega) (by omega) (by intro e;cases e) k6⟩
 obtain rfl:KK=7:=by omega
 clear hin hh hst hv hx hok ho hR hKK HNB hK0 hK1 k4 k42 h2 k hR0 hRC
 go_enter Tryz.func63,Tryz.ntmps63
 go_wp2_with fail
 (try rw[hW3])
 go_region_law (refine Jg (by rfl) 110 _ _ _ _ _ _ _ _ (by rfl) (.pointer (some ⟨E,0,none⟩)) (.int .i64 K0) (.iface ty y) (X5 H caps) (by rfl) (by rfl) (by rfl) (by rfl) (J4 _ _ _ _) (HC0.out _ (by first|exact Below.refl _ _|exact (Below.refl _ _).drew)) ?_;rintro e w4 ⟨⟨ev,rfl,hev⟩,hf4,hs4⟩;refine ⟨_,rfl, ?_⟩)
 all_goals
  rcases hev with ⟨h1,rfl⟩|⟨h1,te,xe,rfl,hr⟩
  ·have HC1B:=Xa (HC1.out h1 w4 hf4 hs4)
   obtain ⟨a1,a2,a3,a4⟩:=HCE.out w4 hf4
   have hsz:=hf4.size
   have lk4:kb<w4.heap.size:=by omega
   have HF4:=Xa hf4
   have HS4:=Xa hs4
   clear hf4 hs4 h1 ce cn0 cn1 cn2 cn3 cn4 cn5 ch k5 k6 hW3
   go_wp2_with fail
   go_region_law (refine Jg (by rfl) 110 _ _ _ _ _ _ _ _ (by rfl) (.pointer (some ⟨E,0,none⟩)) (.int .i64 K1) (.iface ty y) (X5 H caps) (by rfl) (by rfl) (by rfl) (by rfl) (J4 _ _ _ _) (HC1B.out _ (by first|exact Below.refl _ _|exact (Below.refl _ _).drew)) ?_;rintro e w5 ⟨⟨ev,rfl,hev⟩,hf5,hs5⟩;refine ⟨_,rfl, ?_⟩)
   all_goals
    have HF:=Xa ((HF3.out.trans HF4.out).trans hf5)
    have HS:=Xa hs5
    have HEV:=Xa hev
    clear hf5 hs5 hev
    go_wp2_with fail
    go_ret
    exact ⟨⟨_,rfl,HEV.out⟩,HF.out,HS.out⟩
  ·have HQ:Hid (R=R0):=HQ0.out h1
   have HF:=Xa (HF3.out.trans hf4)
   have HS:=Xa hs4
   have HRF:Hid (Jk w4 R0.1 (.iface 105 (.agg #[.int .i64 R0.1, .iface te xe]))):= .inr ⟨h1,te,xe,rfl,hr⟩
   obtain ⟨C0,hC0⟩:∃C0,R0.1=C0:=⟨_,rfl⟩
   have HC0':=Xa hC0
   rw[hC0] at HRF⊢
   clear hf4 hs4 h1 hr hC0
   go_wp2_with fail
   go_ret
   exact ⟨⟨_,rfl,by rw[HQ.out,HC0'.out];exact HRF.out⟩,HF.out,by rw[HQ.out];exact HS.out⟩

set_option maxRecDepth 100000 in
theorem Xzd {B Z E O d:Nat} {fv:Value} {fs:List FN} (hok:okF fs=true) (ho:Qr B E fv fs d) {x:FN} (hx:NodeOk fs x) (k:x.kind=9) {kc kn ki v:Value} {ns:List VN} {H:FuncId} {caps:Array Value} {h:Yc} {st:Xt} {w:World} (hin:FNodeIn B w x kc kn ki) (hh:HandOk B Z E O d fv fs w H caps h) (hst:St B Z E O fv fs st w) (hv:Rep w ns v) (hd:st.1≤d):
  Calls Tryz.prog 63 #[.pointer (some ⟨E,0,none⟩),Ya x kc kn ki,v,X5 H caps] w (Yz B Z E O fv fs (evM (Xf fs d) x ns h st) w):=by
 obtain ⟨_,aC,cC,rfl,_⟩:=id hin.cst
 obtain ⟨_,_,aK,cK,rfl,_⟩:=id hin.names
 obtain ⟨_,_,aI,cI,rfl,_⟩:=id hin.kids
 obtain ⟨ty,y,rfl⟩:=hv.iface
 have hO:=hst.hO
 have hZw:=hst.hZ
 have hEZ:=hst.hEZ
 have hBZ:=hst.hBZ
 have hBE:=hst.ev.hBE
 have hbx:=bx3 w (.pointer (some ⟨E,0,none⟩)) (.int .i64 x.kind) (.string x.name) (.int .i64 x.place) (.slice aC x.cst.length cC) (.slice aK x.names.length cK) (.slice aI x.kids.length cI) (X5 H caps)
 obtain ⟨W3,hW3⟩:∃W3,((w.alloc (.cells #[.pointer (some ⟨E,0,none⟩)] 103)).alloc (.cells #[.int .i64 x.kind, .string x.name, .int .i64 x.place, .slice aC x.cst.length cC, .slice aK x.names.length cK, .slice aI x.kids.length cI] 84)).alloc (.cells #[X5 H caps] 161)=W3:=⟨_,rfl⟩
 rw[hW3] at hbx
 obtain ⟨hb3,ce,cn0,cn1,cn2,cn3,cn4,cn5,ch,hz3⟩:=hbx
 have HB3:=Xa hb3
 have HF3:Hid (FrH Z E O w W3):= .of_below hb3 hst.hZ
 have HNB:Hid (NodeBox B W3 (w.heap.size+1) x (.slice aC x.cst.length cC) (.slice aK x.names.length cK) (.slice aI x.kids.length cI)):=⟨cn0,cn1,cn2,cn3,cn4,cn5,hin.below (hb3.mono (by omega))⟩
 have HS3:Hid (St B Z E O fv fs st W3):=hst.below hb3
 have HV3:=Xa (hv.below hb3)
 have HH3:=Xa (hh.on HF3.out)
 clear hb3
 obtain ⟨R,hR⟩:∃R,evM (Xf fs d) x ns h st=R:=⟨_,rfl⟩
 obtain ⟨m1,m2⟩:=hx.map k
 have HC:Hid (∀W,Below W3.heap.size W3 W→Calls Tryz.prog 113 #[.pointer (some ⟨E,0,none⟩), .agg #[.int .i64 x.kind, .string x.name, .int .i64 x.place, .slice aC x.cst.length cC, .slice aK x.names.length cK, .slice aI x.kids.length cI], .iface ty y, .slice none 0 0,X5 H caps] W fun e w'=>(∃v,e= .returned v∧Jk w' R.1 v)∧FrH Z E O W3 w'∧St B Z E O fv fs R.2 w'):=fun W hb=>by
  have hf:FrH Z E O W3 W:= .of_below hb HS3.out.hZ
  rw[←hR,Xxu k]
  have h9:=Xsu hok ho hx (by omega) (by omega) x.kids.length [] (.slice none 0 0) (.iface ty y) _ _ _ ns H caps h st W (by simp) (HNB.out.inn.below (hb.mono (by omega))) (HH3.out.on hf) (HS3.out.below hb) (HV3.out.below hb) ⟨by simp,none,0,rfl,fun hp=>absurd hp (by simp)⟩ hd
  simp only[List.length_nil,List.drop_zero] at h9
  exact h9.mono fun e w' k=>⟨k.1,hf.trans k.2.1,k.2.2⟩
 rw[hR]
 unfold Ya
 obtain ⟨KK,hKK⟩:∃KK,x.kind=KK:=⟨_,rfl⟩
 rw[hKK] at HC cn0 hW3⊢
 have HBD:Hid (Below W3.heap.size W3 W3.drew):=(Below.refl _ _).drew
 obtain rfl:KK=9:=by omega
 clear hin hh hst hv hx hok ho hR hKK HNB k m1 m2
 go_enter Tryz.func63,Tryz.ntmps63
 go_wp2_with fail
 (try rw[hW3])
 refine (HC.out _ (by first|exact Below.refl _ _|exact HBD.out)).mono ?_
 rintro e w4 ⟨⟨ev,rfl,hev⟩,hf3,hs3⟩
 have HF:=Xa (HF3.out.trans hf3)
 have HS:=Xa hs3
 have HEV:=Xa hev
 clear hf3 hs3 hev
 go_wp2_with fail
 go_ret
 exact ⟨⟨_,rfl,HEV.out⟩,HF.out,HS.out⟩

set_option maxRecDepth 100000 in
theorem X1g {B Z E O d:Nat} {fv:Value} {fs:List FN} (hok:okF fs=true) (ho:Qr B E fv fs d) {x:FN} (hx:NodeOk fs x) (hk:x.kind=1∨x.kind=2∨x.kind=3∨x.kind=5∨x.kind=11∨x.kind=12∨x.kind=13) {kc kn ki v:Value} {ns:List VN} {H:FuncId} {caps:Array Value} {h:Yc} {st:Xt} {w:World} (hin:FNodeIn B w x kc kn ki) (hh:HandOk B Z E O d fv fs w H caps h) (hst:St B Z E O fv fs st w) (hv:Rep w ns v) (hd:st.1≤d):
  Calls Tryz.prog 63 #[.pointer (some ⟨E,0,none⟩),Ya x kc kn ki,v,X5 H caps] w (Yz B Z E O fv fs (evM (Xf fs d) x ns h st) w):=by
 obtain ⟨_,aC,cC,rfl,_⟩:=id hin.cst
 obtain ⟨_,_,aK,cK,rfl,_⟩:=id hin.names
 obtain ⟨_,_,aI,cI,rfl,_⟩:=id hin.kids
 obtain ⟨ty,y,rfl⟩:=hv.iface
 have hO:=hst.hO
 have hZw:=hst.hZ
 have hEZ:=hst.hEZ
 have hBZ:=hst.hBZ
 have hBE:=hst.ev.hBE
 have hbx:=bx3 w (.pointer (some ⟨E,0,none⟩)) (.int .i64 x.kind) (.string x.name) (.int .i64 x.place) (.slice aC x.cst.length cC) (.slice aK x.names.length cK) (.slice aI x.kids.length cI) (X5 H caps)
 obtain ⟨W3,hW3⟩:∃W3,((w.alloc (.cells #[.pointer (some ⟨E,0,none⟩)] 103)).alloc (.cells #[.int .i64 x.kind, .string x.name, .int .i64 x.place, .slice aC x.cst.length cC, .slice aK x.names.length cK, .slice aI x.kids.length cI] 84)).alloc (.cells #[X5 H caps] 161)=W3:=⟨_,rfl⟩
 rw[hW3] at hbx
 obtain ⟨hb3,ce,cn0,cn1,cn2,cn3,cn4,cn5,ch,hz3⟩:=hbx
 have HB3:=Xa hb3
 have HF3:Hid (FrH Z E O w W3):= .of_below hb3 hst.hZ
 have HNB:Hid (NodeBox B W3 (w.heap.size+1) x (.slice aC x.cst.length cC) (.slice aK x.names.length cK) (.slice aI x.kids.length cI)):=⟨cn0,cn1,cn2,cn3,cn4,cn5,hin.below (hb3.mono (by omega))⟩
 have HS3:Hid (St B Z E O fv fs st W3):=hst.below hb3
 have HV3:=Xa (hv.below hb3)
 have HH3:=Xa (hh.on HF3.out)
 clear hb3
 obtain ⟨R,hR⟩:∃R,evM (Xf fs d) x ns h st=R:=⟨_,rfl⟩
 obtain ⟨r,hr⟩:∃r,Yf x ns=r:=⟨_,rfl⟩
 have HRO:Hid (R=Xv r h st):=by rw[Hid,←hR,Xcc hk,hr]
 have HC:Hid (Calls Tryz.prog 119 #[.agg #[.int .i64 x.kind, .string x.name, .int .i64 x.place, .slice aC x.cst.length cC, .slice aK x.names.length cK, .slice aI x.kids.length cI], .iface ty y] W3 (Qa r W3)):=by
  rw[←hr]
  exact X1f hx B _ _ _ _ ns W3 HNB.out.inn (by omega) HV3.out HS3.out.ev.errs.now.two hk
 have HCH:Hid (∀w1 u v,Below W3.heap.size W3 w1→((r.1=0∧v= .nilIface∧Rep w1 r.2 u)∨(r.1≠0∧u= .nilIface∧Kf w1 r.1 v))→Calls Tryz.prog 120 #[u,v,X5 H caps] w1 (fun e w'=>(∃v,e= .returned v∧Jk w' R.1 v)∧FrH Z E O W3 w'∧St B Z E O fv fs R.2 w')):=fun w1 u v hb hrr=>by
  rw[HRO.out]
  exact Vo HH3.out HS3.out hd hb hrr
 rw[hR]
 unfold Ya
 obtain ⟨KK,hKK⟩:∃KK,x.kind=KK:=⟨_,rfl⟩
 rw[hKK] at HC cn0 hW3⊢
 have hk7:KK=1∨KK=2∨KK=3∨KK=5∨KK=11∨KK=12∨KK=13:=by rw[←hKK];exact hk
 have lch:w.heap.size+2<W3.heap.size:=by omega
 clear hin hh hst hv hx hok ho hR hKK HNB hr hk
 rcases hk7 with rfl|rfl|rfl|rfl|rfl|rfl|rfl
 all_goals
  go_enter Tryz.func63,Tryz.ntmps63
  go_wp2_with fail
  (try rw[hW3])
  refine HC.out.mono ?_
  rintro e w4 ⟨hans,hb4⟩
  have c4:=(Xc hb4 lch).trans ch
  rcases hans with ⟨h0,u,rfl,hrep⟩|⟨h0,ve,rfl,hrf⟩
  ·have HCB:=Xa (HCH.out w4 u .nilIface hb4 (.inl ⟨h0,rfl,hrep⟩))
   obtain ⟨tu,yu,rfl⟩:=hrep.iface
   clear hrep h0 hb4 ch
   go_wp2_with fail
   refine HCB.out.mono ?_
   rintro e w5 ⟨⟨ev,rfl,hev⟩,hf3,hs3⟩
   have HF:=Xa (HF3.out.trans hf3)
   have HS:=Xa hs3
   have HEV:=Xa hev
   clear hf3 hs3 hev
   go_wp2_with fail
   go_ret
   exact ⟨⟨_,rfl,HEV.out⟩,HF.out,HS.out⟩
  ·have HCB:=Xa (HCH.out w4 .nilIface ve hb4 (.inr ⟨h0,rfl,hrf⟩))
   obtain ⟨te,xe,rfl,_⟩:=hrf
   obtain ⟨C0,hC0⟩:∃C0,r.1=C0:=⟨_,rfl⟩
   rw[hC0] at HCB⊢
   clear h0 hb4 ch hC0
   go_wp2_with fail
   refine HCB.out.mono ?_
   rintro e w5 ⟨⟨ev,rfl,hev⟩,hf3,hs3⟩
   have HF:=Xa (HF3.out.trans hf3)
   have HS:=Xa hs3
   have HEV:=Xa hev
   clear hf3 hs3 hev
   go_wp2_with fail
   go_ret
   exact ⟨⟨_,rfl,HEV.out⟩,HF.out,HS.out⟩

theorem X2y {B E d:Nat} {fv:Value} {fs:List FN} (hok:okF fs=true) (ho:Qr B E fv fs d):Xoc B E fv fs d:=by
 intro Z O n x kc kn ki v ns H caps h st w hn hxn hin hh hst hv hd
 have hx:NodeOk fs x:=by rw[←hxn];exact Xkw hok hn
 have hr:=hx.range
 by_cases k14:x.kind=14
 ·exact Xt2 hok ho hx k14 hin hh hst hv hd
 by_cases k4:x.kind=4
 ·exact Xwk hok ho hx k4 hin hh hst hv hd
 by_cases k6:x.kind=6
 ·exact Xwl hok ho hx k6 hin hh hst hv hd
 by_cases k7:x.kind=7
 ·exact Xun hok ho hx k7 hin hh hst hv hd
 by_cases k8:x.kind=8
 ·exact Xw3 hok ho hx k8 hin hh hst hv hd
 by_cases k9:x.kind=9
 ·exact Xzd hok ho hx k9 hin hh hst hv hd
 by_cases k10:x.kind=10
 ·exact Xrm hok ho hx k10 hin hh hst hv hd
 by_cases k15:15≤x.kind∧x.kind≤20
 ·exact Xrn hok ho hx k15.1 k15.2 hin hh hst hv hd
 by_cases k21:x.kind=21
 ·exact X0i hok ho hx k21 hin hh hst hv hd
 by_cases k22:x.kind=22
 ·exact X27 hok ho hx k22 hin hh hst hv hd
 by_cases k23:x.kind=23
 ·exact X0j hok ho hx k23 hin hh hst hv hd
 ·exact X1g hok ho hx (by omega) hin hh hst hv hd
theorem Xnw {B E:Nat} {fv:Value} {fs:List FN} (hok:okF fs=true):∀d,d≤1000000→Qr B E fv fs d:=by
 intro d
 induction d with
 |zero=>intro _;exact Xmk B E fv fs
 |succ d ih=>intro hd;exact Xro (X2y hok (ih (by omega))) (by omega)

def Wk (fs:List FN) (vs:List VN) (fuel:Int):Bool:=okB vs&&okF fs&&decide (0≤fuel)&&decide (fuel≤2000)
def Kq (fs:List FN) (vs:List VN) (fuel:Int):OcR:=Xf fs 2000 (fs.length-1) vs fuel.toNat
def Xbk (fs:List FN) (vs:List VN) (fuel:Int):Int:=if Wk fs vs fuel=true then (Kq fs vs fuel).c else 1
def Ke (fs:List FN) (vs:List VN) (fuel:Int):List (List VN):=if Wk fs vs fuel=true∧(Kq fs vs fuel).c=0 then (Kq fs vs fuel).l else []
theorem Xp6 {fs:List FN} {vs:List VN} {fuel:Int} (h:Wk fs vs fuel=false):Xbk fs vs fuel=1∧Ke fs vs fuel= []:=by
 unfold Xbk Ke
 rw[h]
 exact ⟨if_neg (by simp),if_neg (by simp)⟩
theorem Xf3 {fs:List FN} {vs:List VN} {fuel:Int}:(Ke fs vs fuel).length≤40:=by
 unfold Ke
 split
 ·rename_i h
  have h1:=h.1
  unfold Wk at h1
  simp only[Bool.and_eq_true] at h1
  exact (Yr h1.1.1.2 2000).few _ _ _ h1.1.1.1
 ·simp
theorem X14 {fs:List FN} {vs:List VN} {fuel:Int}:∀x∈Ke fs vs fuel,okB x=true:=by
 unfold Ke
 split
 ·rename_i h
  have h1:=h.1
  unfold Wk at h1
  simp only[Bool.and_eq_true] at h1
  exact (Yr h1.1.1.2 2000).ok _ _ _ h1.1.1.1
 ·simp
theorem Xy2 {w:World} {vs:List VN} {x:Value} {lo:Nat} (hlo:lo≤w.heap.size) (ok:okB vs=true) (h:ValIs lo w.heap.size w vs vs.length (vs.length-1) x):Rep w vs x:=by
 obtain ⟨p1,p2,_,p4⟩:=Xp ok
 exact Rep.of (ValIs.tree hlo p2 p4 p1.2 (by omega) h) (K4 ok) ok
set_option maxRecDepth 100000 in
theorem Xp7 (fv v:Value) (fs:List FN) (vs:List VN) (fuel:Int) (w:World) (hf:FNodesAt w.heap.size w fv fs) (hv:NodesAt w.heap.size w v vs) (hE:Errs4 w) (h1: -9223372036854775808≤fuel) (h2:fuel≤9223372036854775807):
  Calls Tryz.prog 7 #[fv,v, .int .i64 fuel] w fun e w'=>∃r base rs KV IV lo,e= .returned (.tuple #[r, .int .i64 (Xbk fs vs fuel)])∧w.heap.size≤base∧Rows2 base w' r (Ke fs vs fuel).length (Xl (Ke fs vs fuel)) rs KV IV lo∧Below w.heap.size w w':=by
 have HF:=Xa hf
 have HV:=Xa hv
 have HE:=Xa hE
 obtain ⟨_,a,cap,rfl,_⟩:=hv
 obtain ⟨_,af,capf,rfl,_⟩:=hf
 obtain ⟨C,hC⟩:∃C,Xbk fs vs fuel=C:=⟨_,rfl⟩
 obtain ⟨L,hL⟩:∃L,Ke fs vs fuel=L:=⟨_,rfl⟩
 have HNO:Hid (Wk fs vs fuel=false→C=1∧L= []):=fun h=>by rw[←hC,←hL];exact Xp6 h
 have HB0:Hid (Wk fs vs fuel=(okB vs&&okF fs&&decide (0≤fuel)&&decide (fuel≤2000))):=rfl
 have HYES:Hid (Wk fs vs fuel=true→C=(Kq fs vs fuel).c∧((Kq fs vs fuel).c=0→L=(Kq fs vs fuel).l)∧((Kq fs vs fuel).c≠0→L= [])):=fun h=>by
  rw[←hC,←hL]
  unfold Xbk Ke
  rw[if_pos h]
  exact ⟨rfl,fun e=>by rw[if_pos ⟨h,e⟩],fun e=>by rw[if_neg (fun k=>e k.2)]⟩
 have hL40:L.length≤40:=by rw[←hL];exact Xf3
 rw[hC,hL]
 clear hC hL hE
 obtain ⟨i0,hi0,hz0,hs0,hy0⟩:=info_parts Qu
 go_enter Tryz.func7,Tryz.ntmps7
 go_wp2_with fail
 cases ok1:okB vs
 ·refine (Xvp w.heap.size _ vs _ HV.out (Nat.le_refl _) ok1).mono ?_
  rintro e w1 ⟨rfl,hb1⟩
  obtain ⟨eC,eL⟩:=HNO.out (by rw[HB0.out,ok1];rfl)
  subst eC eL
  have z1:=hb1.size
  go_wp2_with fail
  go_ret2
  exact ⟨_,w1.heap.size,_,_,_,_,rfl,z1,Rows2.start (World.ownsRow_nil _ _ _ _) (Nat.le_refl _) _,hb1⟩
 ·refine (Xsb w.heap.size _ vs _ HV.out (Nat.le_refl _) ok1).mono ?_
  rintro e w1 ⟨lo1,t,x,rfl,hl1,hl1',hv1,hb1⟩
  have HR1:=Xa (Xy2 (by omega) ok1 hv1)
  have HB1:=Xa hb1
  have z1:=hb1.size
  clear hv1 hb1
  go_wp2_with fail
  refine (Xhm w.heap.size _ fs w1 (HF.out.below HB1.out) z1).mono ?_
  rintro e w2 ⟨rfl,hb2⟩
  have HR2:=Xa (HR1.out.below hb2)
  have HB2:=Xa (HB1.out.trans (hb2.mono z1))
  have z2:=HB2.out.size
  clear hb2
  cases okf:okF fs
  ·obtain ⟨eC,eL⟩:=HNO.out (by rw[HB0.out,ok1,okf];rfl)
   subst eC eL
   go_wp2_with fail
   go_ret2
   exact ⟨_,w2.heap.size,_,_,_,_,rfl,z2,Rows2.start (World.ownsRow_nil _ _ _ _) (Nat.le_refl _) _,HB2.out⟩
  ·by_cases f1 : fuel < 0
   ·obtain ⟨eC,eL⟩:=HNO.out (by rw[HB0.out,decide_eq_false (show ¬0≤fuel by omega)];simp)
    subst eC eL
    go_wp2_with fail
    go_ret2
    exact ⟨_,w2.heap.size,_,_,_,_,rfl,z2,Rows2.start (World.ownsRow_nil _ _ _ _) (Nat.le_refl _) _,HB2.out⟩
   ·by_cases f2:2000<fuel
    ·obtain ⟨eC,eL⟩:=HNO.out (by rw[HB0.out,decide_eq_false (show ¬fuel≤2000 by omega)];simp)
     subst eC eL
     go_wp2_with fail
     go_ret2
     exact ⟨_,w2.heap.size,_,_,_,_,rfl,z2,Rows2.start (World.ownsRow_nil _ _ _ _) (Nat.le_refl _) _,HB2.out⟩
    ·obtain ⟨hc, hl0, hl1'⟩ := HYES.out (by rw [HB0.out, ok1, okf, decide_eq_true (show 0 ≤ fuel by omega), decide_eq_true (show fuel ≤ 2000 by omega)]; rfl)
     obtain ⟨k,rfl⟩:∃k:Nat,fuel=(k:Int):=⟨fuel.toNat,by omega⟩
     have hfs : 1 ≤ fs.length ∧ fs.length ≤ 40 := by
          have:=okf
          unfold okF U9 at this
          simp only[Bool.and_eq_true,decide_eq_true_eq] at this
          exact this.1.1
     have HEV : Hid (∀ W, Below w2.heap.size w2 W → W.heap[w2.heap.size]? = some (.cells #[.slice af fs.length capf, .int .i64 (k : Int)] 57 (0, 0)) → Calls Tryz.prog 29 #[.pointer (some ⟨w2.heap.size, 0, none⟩), .int .i64 ((fs.length : Int) - 1), .iface t x] W (Xjd w.heap.size w2.heap.size (.slice af fs.length capf) fs (Kq fs vs (k : Int)) W)) := fun W hb hblk => by
          have hz:=HB2.out.trans (hb.mono z2)
          have hev:EvB w.heap.size w2.heap.size (.slice af fs.length capf) fs k W:=⟨hblk,HF.out.below hz,z2,⟨w,HE.out,rfl,hz⟩⟩
          have hoc:=Xnw (fv:= .slice af fs.length capf) (B:=w.heap.size) (E:=w2.heap.size) okf 2000 (by omega)
          have:=hoc (fs.length-1) (.iface t x) vs k W (by omega) hev (HR2.out.below hb) (by omega)
          have e1:(((fs.length-1:Nat)):Int)=(fs.length:Int)-1:=by omega
          rw[e1] at this
          exact this
     obtain ⟨r,hr⟩:∃r,Kq fs vs (k:Int)=r:=⟨_,rfl⟩
     rw[hr] at HEV hc hl0 hl1'
     obtain ⟨N,hN⟩:∃N,fs.length=N:=⟨_,rfl⟩
     rw[hN] at HEV hfs⊢
     subst hc
     have HL0:=Xa hl0
     have HL1:=Xa hl1'
     clear hr hN hl0 hl1'
     have hbA:Below w2.heap.size w2 (w2.alloc (.cells #[.slice af N capf, .int .i64 (k:Int)] 57)):=(Below.refl _ _).alloc (Nat.le_refl _) _
     have HC:=Xa (HEV.out _ hbA (heap_alloc_new w2 _))
     have HBA:=Xa hbA
     clear hbA
     go_wp2_with fail
     refine HC.out.mono ?_
     rintro e w3 ⟨it,ev,rfl,hans,hb,he⟩
     have HB3:Hid (Below w.heap.size w w3):=(HB2.out.trans (HBA.out.mono z2)).trans (hb.below z2 (by have:=HBA.out.size;omega))
     have z3:=HB3.out.size
     have HET:=Xa he.errs.now.two.errs.et
     clear hb he
     rcases hans with ⟨h1,rfl,hit⟩|⟨h1,rfl,te,xe,rfl,hrs⟩
     ·have HLL := Xa (HL0.out h1)
          obtain ⟨h0,ai,ci,rfl,hx⟩:=hit
          rw[←HLL.out] at hx⊢
          have HX:=Xa hx
          have H1:=Xa h1
          obtain ⟨M,hM⟩:∃M,L.length=M:=⟨_,rfl⟩
          have HM:=Xa hM
          rw[hM] at HX hL40⊢
          have HR0:=Xa (Rows2.start (base:=w3.heap.size) (World.ownsRow_nil _ _ _ _) (Nat.le_refl _) (Xl L))
          clear hx h1 hM h0
          go_wp2_with fail
          go_loopw [13,53] (fun o i wr=>∃(k:Nat) (rs:Nat→Value) (KV IV:Nat→Nat→Value) (lo:Nat→Nat),k≤M∧i= .int .i64 k∧Rows2 w3.heap.size wr o k (Xl L) rs KV IV lo∧Below w3.heap.size w3 wr) (fun _ i _=>M-(intOf i).toNat)
          case atStart=>exact ⟨0,_,_,_,_,Nat.zero_le _,rfl,HR0.out,Below.refl _ _⟩
          case round=>
           obtain ⟨k,rs,KV,IV,lo,hk,rfl,hrows,hbl⟩:=hrel
           have HR:=Xa hrows
           have HBL:=Xa hbl
           have zs:=hbl.size
           obtain ⟨ao,co,eo⟩:=Xj hrows.row
           subst eo
           clear hrows
           by_cases hlt:k<M
           ·obtain ⟨b,rfl,hc⟩:=HX.out (by omega)
            obtain ⟨tk,xk,hck,hrep⟩:=hc k hlt
            have hck':wr.cell? ⟨b,k,none⟩=some (.iface tk xk):=(Xc hbl (X8 hck)).trans hck
            have HT:=Xa (TreeAt.keep (fun c hcc=>hbl.block c hcc) (Nat.le_refl _) hrep.2)
            have HL:=Xa (Xhv hrep.1)
            have HZ:=Xa (Xp hrep.1).1.2
            clear hc hck hrep hbl
            go_wp2_with fail
            refine (Xex w3.heap.size wr.heap.size (by omega) 80 (Xal (Xl L k)) (.iface tk xk) (.slice none 0 0) [] (fun _=>undef) (fun _=>undef) wr (Nest.nil _ _ _ _) HT.out (Nat.le_refl _) (by rw[List.length_nil,HL.out];have:=HZ.out;omega)).mono ?_
            rintro e w4 ⟨r4,K,I,rfl,hl4⟩
            have hn4:Nest wr.heap.size w4 r4 (Xl L k) K I:=by have:=hl4.1;rw[List.nil_append,List.length_nil,HL.out] at this;exact this
            have hb4:Below wr.heap.size wr w4:=(Below.refl _ _).grown hl4.2.1 (Nat.le_refl _) (fun k hk=>by simp[Value.ownBlock] at hk)
            have HN4:=Xa hn4
            obtain ⟨ar,cr,er⟩:=Xj hn4.row
            obtain ⟨Lk,hLk⟩:∃Lk,(Xl L k).length=Lk:=⟨_,rfl⟩
            rw[hLk] at er
            subst er
            have HB4:=Xa hb4
            have z4:=hb4.size
            have HROW:=Xa (HR.out.below hb4).row
            clear hn4 hb4 hLk hl4
            go_wp2_with (at_builtin;refine wpList_append_own_at _ rfl _ _ 28 rfl w3.heap.size 25 i0 (.slice none 0 0) 1 24 Tryz.underlying28 hi0 hz0 hs0 hy0 rfl (by decide) _ _ _ rfl (HROW.out.alloc _) ⟨w4.heap.size,0,none⟩ 1 1 [.slice ar Lk cr] rfl rfl ?c1 ?c2 ?c3 ?c4 ?c5 ?_)
            case c1=>exact cell_one_new _ _ _
            case c2=>intro u hu;simp at hu;subst hu;rfl
            case c3=>unfold maxLen;omega
            case c4=>omega
            case c5=>simp;omega
            intro v' w5 hown hgrow _ _
            have HR5:=Xa (HR.out.snoc HB4.out HN4.out hown hgrow)
            have HB5:Hid (Below w3.heap.size w3 w5):=((HBL.out.trans (HB4.out.mono zs)).alloc (by omega) _).grown hgrow (by simp;omega) (fun x hx=>(HROW.out.lt x hx).1)
            clear hown hgrow
            go_wp2_with fail
            go_roundw
            case rel=>exact ⟨k+1,_,_,_,_,by omega,by go_num,HR5.out,HB5.out⟩
            case measure=>simp[intOf];omega
           ·obtain rfl:k=M:=by omega
            go_wp2_with fail
            go_ret2
            exact ⟨.slice ao k co,w3.heap.size,_,_,_,_,by rw[H1.out];rfl,z3,by rw[HM.out];exact HR.out,HB3.out.trans (hbl.mono z3)⟩
     ·obtain rfl:L= []:=HL1.out h1
          obtain ⟨C,hC⟩:∃C,r.c=C:=⟨_,rfl⟩
          have HCC:=Xa hC
          rw[hC]
          clear h1 hrs hC
          go_wp2_with fail
          refine (Xu4 C te xe w3 HET.out).mono ?_
          rintro e w4 ⟨rfl,hb4⟩
          have HB4:=Xa (HB3.out.trans (hb4.mono z3))
          clear hb4
          have z4:=HB4.out.size
          go_wp2_with fail
          go_ret2
          exact ⟨.slice none 0 0,w4.heap.size,_,_,_,_,by rw[HCC.out];rfl,z4,Rows2.start (World.ownsRow_nil _ _ _ _) (Nat.le_refl _) _,HB4.out⟩
end Go.Proofs.YtdjddneidbddpaaGreatDoor
