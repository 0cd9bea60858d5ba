import Derived.Test.YtdjddneidbddpaaGreatDoorSeD20
import Derived.Test.YtdjddneidbddpaaGreatDoorSSort
import Derived.Laws.EntriesVeiled
import Derived.Deep.RegionHeld3
import Derived.Test.YtdjddneidbddpaaGreatDoorSeX
import Derived.Test.YtdjddneidbddpaaGreatDoorSeC5
import Derived.Test.YtdjddneidbddpaaGreatDoorSeDD
import Derived.Test.YtdjddneidbddpaaGreatDoorIEv
import Derived.Test.YtdjddneidbddpaaGreatDoorFSpc3
namespace Go.Proofs.YtdjddneidbddpaaGreatDoor
set_option linter.unusedSectionVars false
set_option maxHeartbeats 12800000
open Go.RowKit
set_option linter.unusedSimpArgs false
set_option linter.unusedVariables false
theorem Xns {B E d:Nat} {fv:Value} {fs:List FN} {x:FN} {ns:List VN} {R:Int×Xt} {c:Int} {fu K1:Nat} {av:Option Addr} {cv:Nat} {w:World} (hok:okF fs=true) (ho:Zs B E fv fs d) (hK:K1<fs.length∧(Xi x 1).toNat=K1) (hs:SE B E fv fs fu c w) (hv:NR E w (.slice av ns.length cv) ns) (hd:fu≤d):
  Calls Tryz.prog 35 #[.pointer (some ⟨E,0,none⟩), .int .i64 K1, .slice av ns.length cv] w fun e w'=>∃sv xs m c' fu',e= .returned sv∧SE B E fv fs fu' c' w'∧ButE E w w'∧LR E w.heap.size w' sv xs m∧(c≠0→m= [])∧m.length≤100 *(d+1)∧fu'≤d∧∀out,Now R (Xq (Xf fs d) (Xi x 1) ns Xk) c fu out→Now R Xy (Y6 c' (out.length+m.length)) fu' (out++m):=by
 by_cases h0:c=0
 ·subst h0
  refine (Qf ho hK.1 hs hv hd (Below.refl _ _)).mono ?_
  rintro e w' ⟨sv,xs,m,he,hs',hb,hl,hm,hM⟩
  have hle:=(Yr hok d).le K1 ns fu hv.ok
  refine ⟨sv,xs,m,_,_,he,hs',hb,hl,fun h=>absurd rfl h,hM,Nat.le_trans hle hd,fun out hn=> ?_⟩
  have h1:=Xxz hn rfl (by rw[hK.2]) hm
  rw[List.length_append] at h1
  exact h1
 ·refine (Xps (K1:Int) av ns.length cv hs h0).mono ?_
  rintro e w' ⟨rfl,rfl⟩
  refine ⟨_,[],[],c,fu,rfl,hs,ButE.refl _ _,LR.nil hs.lt,fun _=>rfl,Nat.zero_le _,hd,fun out hn=> ?_⟩
  rw[Xbt h0]
  exact hn.dead h0 _ _
theorem Xwp {c:Int} {d:Nat} {a b:List (List VN)} (h1:c=0→a.length≤40) (h2:c≠0→b= []) (h3:a.length≤100 *(d+1)) (h4:b.length≤100 *(d+1)):a.length+b.length≤40+100 *(d+1):=by
 by_cases e:c=0
 ·have:=h1 e;omega
 ·rw[h2 e];simp;omega
set_option maxRecDepth 100000 in
theorem Xwq {B E d j n:Nat} {fv v:Value} {fs:List FN} {x:FN} {ns:List VN} {w:World} (hok:okF fs=true) (ho:Zs B E fv fs d) (hx:NodeOk fs x) (k:x.kind=7) (hn:n<fs.length) (hxn:Xr fs n=x) (hse:SE B E fv fs (j+1) 0 w) (hv:NR E w v ns) (hj:j≤d) (hd:d≤100000):
  Calls Tryz.prog 35 #[.pointer (some ⟨E,0,none⟩), .int .i64 n,v] w (RunAns B E (100 *(d+2)) fv fs (evM (Xf fs d) x ns Xk (j,[])).1 (evM (Xf fs d) x ns Xk (j,[])).2.2 (evM (Xf fs d) x ns Xk (j,[])).2.1 w):=by
 obtain ⟨W1,W2,W3,b0,o0,cap,aC,cC,aK,cK,aI,cI,hp⟩:=Qo hse hn hxn
 obtain ⟨hfv,q0,q1,q2,z1,hW1,p0,s0,s1,s2,s3,s4,s5,hW2,hW3,g1,g2,g3,hse3,hbut,hbu3,hbox,hE,hB⟩:=hp
 have HS3:=Xa hse3
 have HBT:=Xa hbut
 have HB3:=Xa hbu3
 have HBX:=Xa hbox
 have HV3:Hid (NR E W3 v ns):=(hv.but hbut).below hbu3
 have HOK:=Xa hv.ok
 have HO:=Xa ho
 have HX:=Xa hx
 have HE:=Xa hE
 obtain ⟨av,cv,rfl⟩:=hv.slice
 obtain ⟨R,hR⟩:∃R,evM (Xf fs d) x ns Xk (j,[])=R:=⟨_,rfl⟩
 have HRR:=Xa hR
 rw[hR]
 have hnI:(n:Int)<(fs.length:Int):=by omega
 have hj0:¬((j:Int)+1=0):=by omega
 have hjb:(j:Int)≤1000000:=by omega
 obtain ⟨NF,hNF⟩:∃NF,fs.length=NF:=⟨_,rfl⟩
 rw[hNF] at q0 p0 hnI hn
 have y0:=(Xc hbu3 (by omega)).trans hbox.c0
 have y1:=(Xc hbu3 (by omega)).trans hbox.c1
 have y2:=(Xc hbu3 (by omega)).trans hbox.c2
 have y3:=(Xc hbu3 (by omega)).trans hbox.c3
 have y4:=(Xc hbu3 (by omega)).trans hbox.c4
 have y5:=(Xc hbu3 (by omega)).trans hbox.c5
 obtain ⟨KK,hKK⟩:∃KK,x.kind=KK:=⟨_,rfl⟩
 rw[hKK] at s0 hW2 y0
 have HV2:Hid (NR E W2 (.slice av ns.length cv) ns):=hv.but hbut
 have hkl:=hx.two (.inr (.inl k))
 obtain ⟨kb,ko,kcap,ek,hkb,k4⟩:=hbox.inn.kids.get (j:=0) (by omega)
 injection ek with ek1 ek2 ek3
 subst ek1 ek3
 obtain ⟨hq0,hq1⟩:=hx.kid 0 (by omega)
 obtain ⟨K0,hK0⟩:∃K0:Nat,Xi x 0=(K0:Int):=⟨(Xi x 0).toNat,by omega⟩
 have HK0:Hid (K0<fs.length∧(Xi x 0).toNat=K0):=by unfold Hid;omega
 have hc0:W3.cell? ⟨kb,ko,none⟩=some (.int .i64 (K0:Int)):=by rw[←hK0];exact (Xc hbu3 (by omega)).trans (by unfold Xi;simpa using k4)
 have k41:=(show IntsAt B W2 _ x.kids from hbox.inn.kids).get (j:=1) (by omega)
 obtain ⟨kb1,ko1,kcap1,ek1,hkb1,k41⟩:=k41
 injection ek1 with eb1 eb2 eb3
 injection eb1 with eb1
 injection eb1 with eb1 eb4 eb5
 clear eb2 eb3 eb5
 subst eb1 eb4
 obtain ⟨hq1a,hq1b⟩:=hx.kid 1 (by omega)
 obtain ⟨K1,hK1⟩:∃K1:Nat,Xi x 1=(K1:Int):=⟨(Xi x 1).toNat,by omega⟩
 have HK1:Hid (K1<fs.length∧(Xi x 1).toNat=K1):=by unfold Hid;omega
 have hc1:W2.cell? ⟨kb,ko+1,none⟩=some (.int .i64 (K1:Int)):=by rw[←hK1];exact k41
 obtain rfl:KK=7:=by omega
 obtain ⟨r0,hr0⟩:∃r0,Xf fs d K0 ns j=r0:=⟨_,rfl⟩
 have hle0:r0.fu≤d:=by have h1:=(Yr hok d).le K0 ns j hv.ok;rw[hr0] at h1;omega
 have hrl:r0.l.length≤40:=by rw[←hr0];exact (Yr hok d).few _ _ _ hv.ok
 have HLE0:=Xa hle0
 have HRL:=Xa hrl
 have HONE:Hid (∀m:List (List VN),(r0.c=0→m=r0.l)→Now R (Xq (Xf fs d) (Xi x 1) ns Xk) r0.c r0.fu m):=fun m h=>Xxy (oc:=Xf fs d) (x:=x) (v:=ns) (fu:=j) (by rw[HK0.out.2];exact hr0) h (fun _=>hrl) (by rw[←Xpc k];exact hR)
 have HC:Hid (∀W,Below W3.heap.size W3 W→Calls Tryz.prog 35 #[.pointer (some ⟨E,0,none⟩), .int .i64 K0, .slice av ns.length cv] W (RunAns B E (100 *(d+1)) fv fs r0.c r0.l r0.fu W3)):=fun W hb=>by rw[←hr0];exact Qf HO.out HK0.out.1 HS3.out HV3.out hj hb
 have HC2:Hid (∀w6,SE B E fv fs r0.fu r0.c w6→ButE E W2 w6→Calls Tryz.prog 35 #[.pointer (some ⟨E,0,none⟩), .int .i64 K1, .slice av ns.length cv] w6 fun e w'=>∃sv xs m c' fu',e= .returned sv∧SE B E fv fs fu' c' w'∧ButE E w6 w'∧LR E w6.heap.size w' sv xs m∧(r0.c≠0→m= [])∧m.length≤100 *(d+1)∧fu'≤d∧∀out,Now R (Xq (Xf fs d) (Xi x 1) ns Xk) r0.c r0.fu out→Now R Xy (Y6 c' (out.length+m.length)) fu' (out++m)):=fun w6 hs hb=>Xns hok HO.out HK1.out hs (HV2.out.but hb) hle0
 have hlo3:LR E W2.heap.size W3 (.slice (some ⟨w.heap.size+1,0,none⟩) 0 0) [] []:=by rw[←hW3,←g2];exact ⟨World.ownsRow_lit W2 #[] 0 (Nat.le_refl _) (by simp[maxLen]) rfl,by omega,fun j hj=>absurd hj (by simp)⟩
 have HLP3:Hid (Loop B E fv fs d W2 (.slice none 0 0) [] [] 0 j (.slice (some ⟨w.heap.size+1,0,none⟩) 0 0) [] [] W3):=⟨HS3.out, .of_below hbu3,hlo3,LR.nil (by omega), .inl rfl,by simp,hj⟩
 have hEw:=hE
 have hkbE:kb≠E:=by omega
 have hlp:1<x.kids.length:=by omega
 have hlp2:(1:Int)<(x.kids.length:Int):=by omega
 have hlp3:0<x.kids.length:=by omega
 have hlp4:(0:Int)<(x.kids.length:Int):=by omega
 obtain ⟨i0,hi0,hz0,hs0,hy0⟩:=info_parts Qu
 obtain ⟨LN,hLN⟩:∃LN,ns.length=LN:=⟨_,rfl⟩
 rw[hLN] at HC HC2 HV2 HV3⊢
 have hc0w:W2.cell? ⟨kb,ko,none⟩=some (.int .i64 (K0:Int)):=(Xc hbu3 (by omega)).symm.trans hc0
 have HSX:Hid (∀Y,ButE E W2 Y→(Y.cell? ⟨w.heap.size,5,none⟩=some (.slice (some ⟨kb,ko,none⟩) x.kids.length cI)∧Y.cell? ⟨kb,ko,none⟩=some (.int .i64 (K0:Int))∧Y.cell? ⟨kb,ko+1,none⟩=some (.int .i64 (K1:Int)))):=fun Y hY=>⟨hY.cellE (by omega) HBX.out.c5,hY.cellE hkbE hc0w,hY.cellE hkbE hc1⟩
 have HBD:Hid (ButE E W2 W3.drew):=(ButE.of_below hbu3).trans (.of_below (Below.refl _ _).drew)
 have HB33:Hid (ButE E W2 W3):=ButE.of_below hbu3
 clear hse hv ho hx hxn hok hR hfv hse3 hbut hbu3 hbox hNF hKK hE hB k k4 hkl hq0 hq1 hK0 hr0 hLN hK1 k41 hq1a hq1b hle0 hrl hlo3 hc1 hc0w
 go_enter Tryz.func35,Tryz.ntmps35
 go_wp2_with fail
 have HG2:=Xa g2
 have HG3:=Xa g3
 clear g1 g2 g3 hW1 hW2 hW3 s0 s1 s2 s3 s4 s5 p0 q0 q1 q2 z1
 go_region_held3 (fun w'=>w'.cell? ⟨w.heap.size,5,none⟩=some (.slice (some ⟨kb,ko,none⟩) x.kids.length cI)∧w'.cell? ⟨kb,ko,none⟩=some (.int .i64 (K0:Int))∧w'.cell? ⟨kb,ko+1,none⟩=some (.int .i64 (K1:Int)))
  (first|exact HSX.out _ hbt8|exact HSX.out _ hbt7|exact HSX.out _ hbt6|exact HSX.out _ hbt5|exact HSX.out _ HBD.out|exact HSX.out _ HB33.out)
  (first
   | (refine Zl (by rfl) _ _ 28 (by rfl) W2.heap.size 25 i0 (.slice none 0 0) 1 24 Tryz.underlying28 hi0 hz0 hs0 hy0 rfl (by decide) _ m5.length xs5 (by rfl) hrow7 a7 m7.length cc7 xs7 (by rfl) (by rw [hlen7, Nat.mul_one]) hsrc7 hone7 (by unfold maxLen; omega) (by omega) (by omega) ?_; intro v8 w8 hown8 hg8 hat8
      have hlp8:=HLP7.out.app hlen7 hin7 (v':=v8) (by simpa using hown8) (by simpa using hg8) (by simpa using hat8) (by simpa using Xwp (fun e=>by rw[HM5.out e];exact HRL.out) HD7.out hM5 hM7)
      have hbt8:=hlp8.but
      obtain ⟨a8,c8,e8⟩:=Xj hown8
      subst e8)
   |(go_at_call 35;refine (HC2.out _ HLP6.out.se hbt6).mono ?_;rintro e w7 ⟨sv7,xs7,m7,c7,fu7,rfl,hs7,hb7,hl7,hd7,hM7,hf7,hn7⟩;have hlp7:=HLP6.out.keep hb7 hs7 hf7;have hrow7:w7.ownsRow W2.heap.size 25 1 (.slice a6 m5.length c6) m5.length xs5:=(by simpa using hlp7.lo.row);have hlen7:=hl7.len;have hone7:=hl7.ones;have hin7:=hl7.inn;obtain ⟨a7,cc7,rfl⟩:=hl7.slice;have hsrc7:=hl7.src;have hbt7:=hlp7.but;have hz7:=hbt7.size;have HLP7:=Xa hlp7;have HN7:=Xa hn7;have HD7:=Xa hd7;clear hs7 hb7 hl7 hn7 hd7 hlp7)
   | (refine Zl (by rfl) _ _ 28 (by rfl) W2.heap.size 25 i0 (.slice none 0 0) 1 24 Tryz.underlying28 hi0 hz0 hs0 hy0 rfl (by decide) _ 0 [] (by rfl) hrow5 a5 m5.length c5 xs5 (by rfl) (by rw [hlen5, Nat.mul_one]) hsrc5 hone5 (by unfold maxLen; omega) (by omega) (by omega) ?_; intro v6 w6 hown6 hg6 hat6
      have hlp6:=hlp5.app hlen5 hin5 hown6 hg6 hat6 (by simp;omega)
      have hbt6:=hlp6.but
      obtain ⟨a6,c6,e6⟩:=Xj hown6
      subst e6
      have HLP6:=Xa hlp6
      have HM5:=Xa hm5
      clear hown6 hg6 hat6 hlp6 hlp5 hlen5 hone5 hin5 hsrc5 hs5 hb5 hl5 hm5)
   |(go_at_call 35;refine (HC.out _ (by first|exact Below.refl _ _|exact (Below.refl _ _).drew)).mono ?_;rintro e w5 ⟨sv5,xs5,m5,rfl,hs5,hb5,hl5,hm5,hM5⟩;have hlp5:=HLP3.out.keep hb5 hs5 HLE0.out;have hrow5:=hlp5.lo.row;have hlen5:=hl5.len;have hone5:=hl5.ones;have hin5:=hl5.inn;obtain ⟨a5,c5,rfl⟩:=hl5.slice;have hsrc5:=hl5.src;have hbt5:=hlp5.but;have hz5:=hbt5.size))
 all_goals
  simp only[List.nil_append] at hlp8
  have HLP8:=Xa hlp8
  have HNP:=Xa (HN7.out m5 (HONE.out m5 HM5.out))
  have HFW:Hid ((m5++m7).length≤100 *(d+2)):=by have:=hlp8.few;unfold Hid;omega
  obtain ⟨N8,hN8⟩:∃N8,m5.length+m7.length=N8:=⟨_,rfl⟩
  rw[hN8] at HLP8 HNP⊢
  clear hlp8 hbt8 hat8 hg8 hown8 hrow7 hlen7 hone7 hin7 hsrc7 hbt7 hz7 hbt6 hrow5 hbt5 hz5 hN8
  go_wp2_with fail
  refine (Zc a8 N8 c8 HLP8.out.se).mono ?_
  rintro e w9 ⟨rfl,hs9,hb9⟩
  have HA:=Xa (Q2 (M:=100 *(d+2)) (e:= .returned (.slice a8 N8 c8)) rfl HNP.out hs9 HBT.out (HLP8.out.but.trans hb9) (HLP8.out.lo.keep hb9) (by have:=HG2.out;omega) HE.out HFW.out)
  clear hs9 hb9
  go_wp2_with fail
  go_ret
  exact HA.out

theorem X3o {R R1:Int×Xt} {k:Xt→Int×Xt} {c:Int} {fu:Nat} {m:List (List VN)} (h:R=Yd R1 k) (hn:Now R1 Xy c fu m):Now R k c fu m:=by
 by_cases e:c=0
 ·obtain ⟨h1,h2⟩:=hn.1 e
  refine ⟨fun _=>⟨?_,h2⟩,fun e2=>absurd e e2⟩
  rw[h,←h1]
  rfl
 ·obtain ⟨h1,h2⟩:=hn.2 e
  refine ⟨fun e2=>absurd e2 e,fun _=> ?_⟩
  have e3:Yd R1 k=R1:=by unfold Yd;rw[if_neg (by rw[h1];exact e)]
  rw[h,e3]
  exact ⟨h1,h2⟩
theorem Xx9 {l:List Int} {k:Nat} (h:k<l.length):l.drop k=Xm l k::l.drop (k+1):=by
 rw[List.drop_eq_getElem_cons h,Zd h]
structure MapSt (B E d:Nat) (fv:Value) (fs:List FN) (G:Option Nat) (bO:Nat) (W5:World) (c:Int) (fu:Nat) (o:Value) (oxs:List Value) (out:List (List VN)) (wr:World):Prop where
 se:SE B E fv fs fu c wr
 fr:FrX E G W5 wr
 lo:LR E bO wr o oxs out
 own:o.ownBlock=G∨∀y,o.ownBlock=some y→W5.heap.size≤y
 few:out.length≤41
 fud:fu≤d
theorem MapSt.far {B E d bO fu:Nat} {fv o:Value} {fs:List FN} {G:Option Nat} {W5 wr:World} {c:Int} {oxs:List Value} {out:List (List VN)} (h:MapSt B E d fv fs G bO W5 c fu o oxs out wr) {x:Nat} (hx:x<W5.heap.size) (hG:some x≠G):some x≠o.ownBlock:=by
 rcases h.own with e|e
 ·rw[e];exact hG
 ·intro e2
  have:=e x e2.symm
  omega
theorem MapSt.apart {B E d bO fu:Nat} {fv o av:Value} {fs:List FN} {G:Option Nat} {W5 wr:World} {c:Int} {oxs:List Value} {out:List (List VN)} (h:MapSt B E d fv fs G bO W5 c fu o oxs out wr) (hl:∀x,av.ownBlock=some x→x<W5.heap.size) (hG:av.ownBlock=none∨av.ownBlock≠G):av.ownBlock=none∨av.ownBlock≠o.ownBlock:=by
 cases e:av.ownBlock with
 |none=>exact .inl rfl
 | some x =>
  refine .inr (h.far (hl x e) ?_)
  rcases hG with hG|hG
  ·rw[e] at hG;cases hG
  ·rw[←e];exact hG
theorem FrX.cellE {E:Nat} {G:Option Nat} {w w':World} (h:FrX E G w w') {b o:Nat} {v:Value} (hn:b≠E) (hG:some b≠G) (hc:w.cell? ⟨b,o,none⟩=some v):w'.cell? ⟨b,o,none⟩=some v:=
 (World.cell?_of_block (w:=w) (w':=w') (a:=⟨b,o,none⟩) (h.block b (X8 hc) hn hG)).trans hc
theorem Xya (w:World) (y:Value):(w.alloc (.cells #[y] 25)).cell? ⟨w.heap.size,0,none⟩=some y:=by rw[World.cell?_alloc_at _ _ _ _ (by simp)];rfl
theorem Xph {w:World} {b:Nat} {y:Value} (h:w.cell? ⟨b,0,none⟩=some y):∀(j:Nat) (u:Value),[y][j]? =some u→w.cell? ((⟨b,0,none⟩:Addr).add j)=some u:=by
 intro j u hu
 match j,hu with
 |0,hu=>simp at hu;subst hu;rw[Addr.add_lit];exact h
 |j+1,hu=>simp at hu
set_option maxRecDepth 100000 in
theorem Xyb {B E d mm:Nat} {fv:Value} {fs:List FN} {x:FN} (hok:okF fs=true) (ho:Zs B E fv fs d) (hx:NodeOk fs x) (k9:x.kind=9) (hd:d≤100000) (ih:Xjs B E d fv fs x mm):Xjs B E d fv fs x (mm+1):=by
 intro kc kn ki v ns done out dv ov dxs oxs bD bO fu w hmm hin hs hv hld hlo hap ho40 hfu hbO
 obtain ⟨m1,m2⟩:=hx.map k9
 have HO:=Xa ho
 have HIH:=Xa ih
 have HOK:=Xa hv.ok
 have hE:=hs.lt
 have hBE:=hs.hBE
 obtain ⟨_,aC,cC,rfl,_⟩:=id hin.cst
 obtain ⟨_,_,aK,cK,rfl,_⟩:=id hin.names
 obtain ⟨_,_,aI,cI,rfl,_⟩:=id hin.kids
 obtain ⟨D,hD⟩:∃D,done.length=D:=⟨_,rfl⟩
 have HD:=Xa hD
 obtain ⟨kb,ko,kcap,ek,hkb,k4⟩:=hin.kids.get (j:=D) (by omega)
 injection ek with ek1 ek2 ek3
 subst ek1 ek3
 obtain ⟨hq0,hq1⟩:=hx.kid D (by omega)
 obtain ⟨K0,hK0⟩:∃K0:Nat,Xi x D=(K0:Int):=⟨(Xi x D).toNat,by omega⟩
 have HK0:Hid (K0<fs.length∧(Xi x D).toNat=K0):=by unfold Hid;omega
 have e9:Z6 (Xf fs d) x.names ns Xk (x.kids.drop done.length) done (fu,out)=Xq (Xf fs d) (Xi x D) ns (fun y=>Z6 (Xf fs d) x.names ns Xk (x.kids.drop (D+1)) (done++ [y])) (fu,out):=by
  rw[hD,Xx9 (by omega)];rfl
 rw[e9]
 obtain ⟨R,hR⟩:∃R,Xq (Xf fs d) (Xi x D) ns (fun y=>Z6 (Xf fs d) x.names ns Xk (x.kids.drop (D+1)) (done++ [y])) (fu,out)=R:=⟨_,rfl⟩
 have HRE:=Xa hR
 rw[hR]
 have l0:w.cell? ⟨kb,ko+D,none⟩=some (.int .i64 (K0:Int)):=by rw[←hK0];exact k4
 obtain ⟨W2,hW2⟩:∃W2,w.alloc (.cells #[.int .i64 x.kind, .string x.name, .int .i64 x.place, .slice aC x.cst.length cC, .slice aK x.names.length cK, .slice (some ⟨kb,ko,none⟩) x.kids.length cI] 84)=W2:=⟨_,rfl⟩
 have g2:W2.heap.size=w.heap.size+1:=by rw[←hW2];simp
 have hb2:Below w.heap.size w W2:=by rw[←hW2];exact (Below.refl _ _).alloc (Nat.le_refl _) _
 have hblk:W2.heap[w.heap.size]? =some (.cells #[.int .i64 x.kind, .string x.name, .int .i64 x.place, .slice aC x.cst.length cC, .slice aK x.names.length cK, .slice (some ⟨kb,ko,none⟩) x.kids.length cI] 84 (0,0)):=by rw[←hW2];exact heap_alloc_new w _
 have HBOX:Hid (W2.cell? ⟨w.heap.size,0,none⟩=some (.int .i64 x.kind)∧W2.cell? ⟨w.heap.size,1,none⟩=some (.string x.name)∧W2.cell? ⟨w.heap.size,2,none⟩=some (.int .i64 x.place)∧W2.cell? ⟨w.heap.size,3,none⟩=some (.slice aC x.cst.length cC)∧W2.cell? ⟨w.heap.size,4,none⟩=some (.slice aK x.names.length cK)∧W2.cell? ⟨w.heap.size,5,none⟩=some (.slice (some ⟨kb,ko,none⟩) x.kids.length cI)):=⟨Xg hblk 0,Xg hblk 1,Xg hblk 2,Xg hblk 3,Xg hblk 4,Xg hblk 5⟩
 have y5:=HBOX.out.2.2.2.2.2
 have hc0:=(Xc hb2 (show kb<w.heap.size by omega)).trans l0
 have HB2:=Xa hb2
 have HS2:=Xa (hs.below hb2)
 have HV:=Xa hv
 have HIN:=Xa hin
 have HLO:=Xa hlo
 have HLD:=Xa hld
 have HAP:=Xa hap
 have HO40:=Xa ho40
 have HE:=Xa hE
 obtain ⟨r0,hr0⟩:∃r0,Xf fs d K0 ns fu=r0:=⟨_,rfl⟩
 have HR0:=Xa hr0
 have hrl:r0.l.length≤40:=by rw[←hr0];exact (Yr hok d).few _ _ _ hv.ok
 have hfu0:r0.fu≤d:=by have h1:=(Yr hok d).le K0 ns fu hv.ok;rw[hr0] at h1;omega
 have HC:Hid (Calls Tryz.prog 35 #[.pointer (some ⟨E,0,none⟩), .int .i64 K0,v] W2 (RunAns B E (100 *(d+1)) fv fs r0.c r0.l r0.fu W2)):=by
  rw[←hr0]
  exact Qf HO.out HK0.out.1 HS2.out (hv.below hb2) hfu (Below.refl _ _)
 obtain ⟨ao,co,eov⟩:=hlo.slice
 obtain ⟨ad,cd,edv⟩:=hld.slice
 obtain ⟨av,cv,evv⟩:=hv.slice
 subst eov edv evv
 obtain ⟨OL,hO⟩:∃OL,out.length=OL:=⟨_,rfl⟩
 have HOL:=Xa hO
 obtain ⟨LN,hLN⟩:∃LN,ns.length=LN:=⟨_,rfl⟩
 obtain ⟨KL,hKL⟩:∃KL,x.kids.length=KL:=⟨_,rfl⟩
 obtain ⟨NL,hNL⟩:∃NL,x.names.length=NL:=⟨_,rfl⟩
 have hDK:D<KL:=by omega
 have hDKI:(D:Int)<(KL:Int):=by omega
 have hDne:¬((D:Int)=(KL:Int)):=by omega
 have hD5:D≤5:=by omega
 have HKL:=Xa hKL
 have HNL:=Xa hNL
 unfold Ya
 rw[hLN] at HC HV⊢
 rw[hO,hD,hKL,hNL]
 rw[hO] at HLO HAP
 rw[hD] at HLD HAP
 rw[hKL] at hW2 y5 HBOX HIN
 rw[hNL] at hW2 HBOX HIN
 have hMK:D+(mm+1)=KL:=by omega
 have HMK:=Xa hMK
 obtain ⟨i0,hi0,hz0,hs0,hy0⟩:=info_parts Qu
 have hoL:=hlo.row.lt
 have hdL:=hld.row.lt
 have HOW:=Xa hoL
 have HDW:=Xa hdL
 have HBO:=Xa hbO
 clear ho ih hmm hin hs hv hld hlo hap hx k9 m1 m2 e9 hR hb2 hblk hr0 hK0 k4 hq0 hq1 l0 hO hD hLN hKL hNL hoL hdL hMK ho40 hok
 go_enter Tryz.func76,Tryz.ntmps76
 go_wp2_with fail
 refine HC.out.mono ?_
 rintro e W5 ⟨sv,xs,m,rfl,hs5,hb5,hl5,hm5,hM5⟩
 have HNW:=Xa (Us (R:=R) (k:=Xy) (h:=(fun y=>Z6 (Xf fs d) x.names ns Xk (x.kids.drop (D+1)) (done++ [y]))) (n:=Xi x D) (by rw[HK0.out.2];exact HR0.out) hm5 HO40.out (by rw[Xa1];exact HRE.out.symm))
 have HB5:=Xa hb5
 have HL5:=Xa hl5
 have HG2:=Xa g2
 have z5:=hb5.size
 obtain ⟨a4,c4,rfl⟩:=hl5.slice
 obtain ⟨M,hM⟩:∃M,m.length=M:=⟨_,rfl⟩
 have HMQ:=Xa hM
 have hMb:M≤20000000:=by omega
 -- the rows behind the run
 have HLO5:Hid (LR E bO W5 (.slice ao OL co) oxs out):=(HLO.out.keepB HB2.out).keep hb5
 have HLD5:Hid (LR E bD W5 (.slice ad D cd) dxs done):=(HLD.out.keepB HB2.out).keep hb5
 have HMS:Hid (MapSt B E d fv fs (Value.slice ao OL co).ownBlock bO W5 r0.c r0.fu (.slice ao OL co) oxs out W5):=⟨hs5,FrX.refl _ _ _,HLO5.out, .inl rfl,by have:=HO40.out;omega,hfu0⟩
 have HLG:Hid ((Value.slice a4 M c4).ownBlock=none∨(Value.slice a4 M c4).ownBlock≠(Value.slice ao OL co).ownBlock):=by
  cases e3:(Value.slice a4 M c4).ownBlock with
  |none=>exact .inl rfl
  | some y =>
   refine .inr (fun e4=> ?_)
   have h1:=(hl5.row.lt y (by rw[hM];exact e3)).1
   have h2:=(HOW.out y (by rw[HOL.out];exact e4.symm)).2
   have:=HG2.out
   omega
 rw[hM] at HL5⊢
 clear hs5 hb5 hl5 hm5 hM5 hM g2 y5 hc0 hW2
 go_wp2_with fail
 go_loopw [4,15] (fun o i wr=>∃(k:Nat) (c:Int) (fu:Nat) (oxs:List Value) (out:List (List VN)),k≤M∧i= .int .i64 k∧Hid (Now R (fun st=>Yd (Xo (fun y=>Z6 (Xf fs d) x.names ns Xk (x.kids.drop (D+1)) (done++ [y])) (m.drop k) st) Xy) c fu out)∧MapSt B E d fv fs (Value.slice ao OL co).ownBlock bO W5 c fu o oxs out wr) (fun _ i _=>M-(intOf i).toNat)
 case atStart=>exact ⟨0,r0.c,r0.fu,oxs,out,Nat.zero_le _,rfl,HNW.out,HMS.out⟩
 case round =>
  obtain ⟨k,c,fu2,oxs2,out2,hk,rfl,hnow,hms⟩:=hrel
  have HMT:=Xa hms
  obtain ⟨ao2,co2,rfl⟩:=hms.lo.slice
  obtain ⟨_,_,q2,_,_⟩:=hms.se.cells
  have zs:=hms.fr.keep.size
  by_cases hlt:k<M
  ·have hltI:(k:Int)<(M:Int):=by omega
   by_cases h0:c=0
   ·subst h0
    obtain ⟨hnx,ho402⟩:=hnow.next rfl (by rw[HMQ.out];exact hlt)
    have HLA:Hid (LR E W2.heap.size wr (.slice a4 M c4) xs m):=HL5.out.keepX hms.fr HLG.out
    have HLDR:Hid (LR E bD wr (.slice ad D cd) dxs done):=HLD5.out.keepX hms.fr HAP.out
    obtain ⟨b,ax,cx,rfl,hbb,hcell,hnr⟩:=HLA.out.cell (j:=k) (by rw[HMQ.out];exact hlt)
    have hapart:=hms.apart (av:=(.slice (some ⟨b,0,none⟩) M c4)) (fun y hy=>(HL5.out.row.lt y hy).2) HLG.out
    have hbne:b≠E:=by have:=HE.out;have:=HG2.out;omega
    have hbG:some b≠(Value.slice ao2 out2.length co2).ownBlock:=by
     rcases hapart with e|e
     ·cases e
     ·exact e
    have hnbG:some w.heap.size≠(Value.slice ao2 out2.length co2).ownBlock:=hms.far (by have:=HG2.out;omega) (fun e=>by have:=(HOW.out _ (by rw[HOL.out];exact e.symm)).2;omega)
    have hapD:=hms.apart (av:= .slice ad D cd) (fun y hy=>(HLD5.out.row.lt y hy).2) HAP.out
    have hfr5:=(HB5.out.frx (Value.slice ao OL co).ownBlock).trans hms.fr (.inl rfl)
    have hnbO:some w.heap.size≠(Value.slice ao OL co).ownBlock:=fun e=>by have:=(HOW.out _ (by rw[HOL.out];exact e.symm)).2;omega
    obtain ⟨x0,x1,x2,x3,x4,x5⟩:=HBOX.out
    have y0:=hfr5.cellE (by have:=HE.out;omega) hnbO x0
    have y1:=hfr5.cellE (by have:=HE.out;omega) hnbO x1
    have y2:=hfr5.cellE (by have:=HE.out;omega) hnbO x2
    have y3:=hfr5.cellE (by have:=HE.out;omega) hnbO x3
    have y4:=hfr5.cellE (by have:=HE.out;omega) hnbO x4
    have y5:=hfr5.cellE (by have:=HE.out;omega) hnbO x5
    obtain ⟨LX,hLX⟩:∃LX,(Xl m k).length=LX:=⟨_,rfl⟩
    rw[hLX] at hcell hnr
    have HSX:Hid (∀Y,FrX E (Value.slice ao2 out2.length co2).ownBlock wr Y→(Y.cell? ⟨w.heap.size,0,none⟩=some (.int .i64 x.kind)∧Y.cell? ⟨w.heap.size,1,none⟩=some (.string x.name)∧Y.cell? ⟨w.heap.size,2,none⟩=some (.int .i64 x.place)∧Y.cell? ⟨w.heap.size,3,none⟩=some (.slice aC x.cst.length cC)∧Y.cell? ⟨w.heap.size,4,none⟩=some (.slice aK NL cK)∧Y.cell? ⟨w.heap.size,5,none⟩=some (.slice (some ⟨kb,ko,none⟩) KL cI)∧Y.cell? ⟨b,k,none⟩=some (.slice ax LX cx))):=fun Y hY=>⟨hY.cellE (by have:=HE.out;omega) hnbG y0,hY.cellE (by have:=HE.out;omega) hnbG y1,hY.cellE (by have:=HE.out;omega) hnbG y2,hY.cellE (by have:=HE.out;omega) hnbG y3,hY.cellE (by have:=HE.out;omega) hnbG y4,hY.cellE (by have:=HE.out;omega) hnbG y5,hY.cellE hbne hbG hcell⟩
    have HFB:Hid (∀Y,Below wr.heap.size wr Y→FrX E (Value.slice ao2 out2.length co2).ownBlock wr Y):=fun Y h=>(ButE.of_below h).frx _
    have HIN3:Hid (FNodeIn B wr x (.slice aC x.cst.length cC) (.slice aK NL cK) (.slice (some ⟨kb,ko,none⟩) KL cI)):=(HIN.out.below (HB2.out.mono (by have:=HE.out;omega))).below (hfr5.keep.below hBE (by have:=HG2.out;have:=HE.out;omega) hfr5.os hfr5.tape hfr5.output)
    have HV3:Hid (NR E wr (.slice av LN cv) ns):=(HV.out.below HB2.out).keep hfr5.keep
    have HNRX:=Xa hnr
    have HMOK:Hid (∀(w7:World) (v7:Value),Below wr.heap.size wr w7→LR E wr.heap.size w7 v7 (dxs++ [.slice ax LX cx]) (done++ [Xl m k])→Calls Tryz.prog 76 #[.pointer (some ⟨E,0,none⟩), .agg #[.int .i64 x.kind, .string x.name, .int .i64 x.place, .slice aC x.cst.length cC, .slice aK NL cK, .slice (some ⟨kb,ko,none⟩) KL cI], .slice av LN cv,v7, .slice ao2 out2.length co2] w7 (Xqr B E d fv fs (Z6 (Xf fs d) x.names ns Xk (x.kids.drop (D+1)) (done++ [Xl m k]) (fu2,out2)) (Value.slice ao2 out2.length co2).ownBlock bO w7)):=fun w7 v7 hb7 hl7=>by
     have h1:=HIH.out (.slice aC x.cst.length cC) (.slice aK NL cK) (.slice (some ⟨kb,ko,none⟩) KL cI) (.slice av LN cv) ns (done++ [Xl m k]) out2 v7 (.slice ao2 out2.length co2) (dxs++ [.slice ax LX cx]) oxs2 wr.heap.size bO fu2 w7 (by have:=HD.out;have:=HMK.out;have:=HKL.out;simp;omega) (HIN3.out.below (hb7.mono (by have:=HE.out;have:=HG2.out;omega))) (hms.se.below hb7) (HV3.out.below hb7) hl7 (hms.lo.keepB hb7) (by
      cases e3:v7.ownBlock with
      |none=>exact .inl rfl
      | some y =>
       refine .inr (fun e4=> ?_)
       have h1:=(hl7.row.lt y e3).1
       have h2:=(hms.lo.row.lt y e4.symm).2
       omega) ho402 hms.fud (by have:=HBO.out;have:=HG2.out;have:=hb7.size;omega)
     rw[show (done++ [Xl m k]).length=D+1 by rw[List.length_append,HD.out];rfl] at h1
     exact h1
    have HNX:=Xa hnx
    have HLN7:Hid (∀(w7:World) (v7:Value),Below wr.heap.size wr w7→w7.ownsRow wr.heap.size 25 1 v7 (D+1) (dxs++ [.slice ax LX cx])→LR E wr.heap.size w7 v7 (dxs++ [.slice ax LX cx]) (done++ [Xl m k])):=fun w7 v7 hb7 hown=>⟨by rw[List.length_append,HD.out];exact hown,by have:=HE.out;have:=HG2.out;omega,fun j hj=>by
     by_cases e:j<done.length
     ·rw[Xi1 e,List.getD_eq_getElem?_getD,List.getElem?_append_left (by rw[HLDR.out.len];exact e),←List.getD_eq_getElem?_getD]
      exact (HLDR.out.inn j e).below hb7
     ·have hj1:j=done.length:=by rw[List.length_append,List.length_singleton] at hj;omega
      subst hj1
      rw[Xi2 (Nat.le_refl _),List.getD_eq_getElem?_getD,List.getElem?_append_right (by rw[HLDR.out.len];exact Nat.le_refl _),HLDR.out.len,Nat.sub_self]
      exact HNRX.out.below hb7⟩
    have HDS:Hid (∀W,Below wr.heap.size wr W→(0<D→∃adr,ad=some adr∧∀j u,dxs[j]? =some u→W.cell? (adr.add j)=some u)):=fun W hb=>(HLDR.out.keepB hb).src
    have HDO:=Xa HLDR.out.ones
    have HDL:Hid (dxs.length=D *1):=by rw[Hid,HLDR.out.len,HD.out,Nat.mul_one]
    have BA:Hid (Below wr.heap.size wr (wr.drew.alloc (.cells #[] 25))):=(Below.refl _ _).drew.alloc (Nat.le_refl _) _
    have BB:Hid (Below wr.heap.size wr ((wr.drew.alloc (.cells #[] 25)).alloc (.cells #[.slice ax LX cx] 25))):=BA.out.alloc (by simp) _
    have BX:Hid (Below wr.heap.size wr (wr.drew.alloc (.cells #[.slice ax LX cx] 25))):=(Below.refl _ _).drew.alloc (Nat.le_refl _) _
    have BC:Hid (Below wr.heap.size wr ((wr.drew.alloc (.cells #[.slice ax LX cx] 25)).alloc (.cells #[] 25))):=BX.out.alloc (by simp) _
    have OA:Hid ((wr.drew.alloc (.cells #[] 25)).ownsRow wr.heap.size 25 1 (.slice (some ⟨wr.heap.size,0,none⟩) 0 0) 0 []):=World.ownsRow_lit wr.drew #[] 0 (Nat.le_refl _) (by simp[maxLen]) rfl
    have OB:Hid (((wr.drew.alloc (.cells #[] 25)).alloc (.cells #[.slice ax LX cx] 25)).ownsRow wr.heap.size 25 1 (.slice (some ⟨wr.heap.size,0,none⟩) 0 0) 0 []):=OA.out.alloc _
    have OC:Hid (((wr.drew.alloc (.cells #[.slice ax LX cx] 25)).alloc (.cells #[] 25)).ownsRow wr.heap.size 25 1 (.slice (some ⟨wr.heap.size+1,0,none⟩) 0 0) 0 []):=by
     have h1:=World.ownsRow_lit (base:=wr.heap.size) (e:=25) (size:=1) (wr.drew.alloc (.cells #[.slice ax LX cx] 25)) #[] 0 (by simp) (by simp[maxLen]) rfl
     unfold Hid
     simpa using h1
    have LB1:Hid (((wr.drew.alloc (.cells #[] 25)).alloc (.cells #[.slice ax LX cx] 25)).cell? ⟨wr.heap.size+1,0,none⟩=some (.slice ax LX cx)):=by
     have h1:=Xya (wr.drew.alloc (.cells #[] 25)) (.slice ax LX cx)
     unfold Hid
     simpa using h1
    have LC1:Hid (((wr.drew.alloc (.cells #[.slice ax LX cx] 25)).alloc (.cells #[] 25)).cell? ⟨wr.heap.size,0,none⟩=some (.slice ax LX cx)):=by
     rw[Hid,World.cell?_alloc_past _ _ _ (by simp)]
     have h1:=Xya wr.drew (.slice ax LX cx)
     simpa using h1
    obtain ⟨OL2,hO2⟩:∃OL2,out2.length=OL2:=⟨_,rfl⟩
    rw[hO2] at HMT HSX HFB HMOK⊢
    have HOL2:=Xa hO2
    clear hnow hms hnx ho402 hnr hLX x0 x1 x2 x3 x4 x5 hapart hapD hfr5 hnbO hbG hnbG hO2
    go_wp2_with fail
    go_region_held3 (fun Y=>Y.cell? ⟨w.heap.size,0,none⟩=some (.int .i64 x.kind)∧Y.cell? ⟨w.heap.size,1,none⟩=some (.string x.name)∧Y.cell? ⟨w.heap.size,2,none⟩=some (.int .i64 x.place)∧Y.cell? ⟨w.heap.size,3,none⟩=some (.slice aC x.cst.length cC)∧Y.cell? ⟨w.heap.size,4,none⟩=some (.slice aK NL cK)∧Y.cell? ⟨w.heap.size,5,none⟩=some (.slice (some ⟨kb,ko,none⟩) KL cI)∧Y.cell? ⟨b,k,none⟩=some (.slice ax LX cx))
     (first|exact HSX.out _ hfr8|exact HSX.out _ (HFB.out _ hb7)|exact HSX.out _ (HFB.out _ (hb6.alloc hb6.size _))|exact HSX.out _ (HFB.out _ hb6)|exact HSX.out _ (HFB.out _ (Below.refl _ _).drew)|exact HSX.out _ (HFB.out _ BA.out)|exact HSX.out _ (HFB.out _ BX.out)|exact HSX.out _ (HFB.out _ BB.out)|exact HSX.out _ (HFB.out _ BC.out))
     (first
      |(go_at_call 76;refine (HMOK.out _ _ hb7 (HLN7.out _ _ hb7 hrow7)).mono ?_;rintro e w8 ⟨sv8,xs8,m8,c8,fu8,rfl,hs8,hf8,hl8,how8,hn8,hm8,hfu8⟩;have hfr8:=(HFB.out _ hb7).trans hf8 (.inl rfl);obtain ⟨a8,cc8,rfl⟩:=hl8.slice)
      | (refine Zl (by rfl) _ _ 28 (by rfl) wr.heap.size 25 i0 (.slice none 0 0) 1 24 Tryz.underlying28 hi0 hz0 hs0 hy0 rfl (by decide) _ D dxs (by rfl) hrow6 (some ⟨wr.heap.size + 1, 0, none⟩) 1 1 [.slice ax LX cx] (by rfl) (by rfl) (fun _ => ⟨_, rfl, Xph hlB⟩) (by intro u hu; simp at hu; subst hu; rfl) (by unfold maxLen; omega) (by omega) (by have := hb6.size; omega) ?_; intro v7 w7 hown7 hg7 hat7
         have hb7:Below wr.heap.size wr w7:=Kg hb6 hrow6 (Nat.le_refl _) hg7
         have hrow7:=hown7
         obtain ⟨a7,c7,e7⟩:=Xj hown7
         subst e7)
      | (refine Zl (by rfl) _ _ 28 (by rfl) wr.heap.size 25 i0 (.slice none 0 0) 1 24 Tryz.underlying28 hi0 hz0 hs0 hy0 rfl (by decide) _ D dxs (by rfl) hrow6 (some ⟨wr.heap.size, 0, none⟩) 1 1 [.slice ax LX cx] (by rfl) (by rfl) (fun _ => ⟨_, rfl, Xph hlC⟩) (by intro u hu; simp at hu; subst hu; rfl) (by unfold maxLen; omega) (by omega) (by have := hb6.size; omega) ?_; intro v7 w7 hown7 hg7 hat7
         have hb7:Below wr.heap.size wr w7:=Kg hb6 hrow6 (Nat.le_refl _) hg7
         have hrow7:=hown7
         obtain ⟨a7,c7,e7⟩:=Xj hown7
         subst e7)
      | (refine Zl (by rfl) _ _ 28 (by rfl) wr.heap.size 25 i0 (.slice none 0 0) 1 24 Tryz.underlying28 hi0 hz0 hs0 hy0 rfl (by decide) _ D dxs (by rfl) (hrow6.alloc _) (some ⟨w6.heap.size, 0, none⟩) 1 1 [.slice ax LX cx] (by rfl) (by rfl) (fun _ => ⟨_, rfl, Xth w6 (.slice ax LX cx) 25⟩) (by intro u hu; simp at hu; subst hu; rfl) (by unfold maxLen; omega) (by omega) (by have := hb6.size; simp; omega) ?_; intro v7 w7 hown7 hg7 hat7
         have hb7:Below wr.heap.size wr w7:=Xf4 hb6 hrow6 (Nat.le_refl _) hg7
         have hrow7:=hown7
         obtain ⟨a7,c7,e7⟩:=Xj hown7
         subst e7)
      | (refine Zl (by rfl) _ _ 28 (by rfl) wr.heap.size 25 i0 (.slice none 0 0) 1 24 Tryz.underlying28 hi0 hz0 hs0 hy0 rfl (by decide) _ 0 [] (by rfl) OA.out ad D cd dxs (by rfl) HDL.out (HDS.out _ BA.out) HDO.out (by unfold maxLen; omega) (by omega) (by simp <;> omega) ?_; intro v6 w6 hown6 hg6 hat6
         have hb6:Below wr.heap.size wr w6:=Kg BA.out OA.out (Nat.le_refl _) hg6
         have hrow6:w6.ownsRow wr.heap.size 25 1 v6 D dxs:=(by simpa using hown6)
         obtain ⟨a6,c6,e6⟩:=Xj hrow6
         subst e6)
      | (refine Zl (by rfl) _ _ 28 (by rfl) wr.heap.size 25 i0 (.slice none 0 0) 1 24 Tryz.underlying28 hi0 hz0 hs0 hy0 rfl (by decide) _ 0 [] (by rfl) OB.out ad D cd dxs (by rfl) HDL.out (HDS.out _ BB.out) HDO.out (by unfold maxLen; omega) (by omega) (by simp <;> omega) ?_; intro v6 w6 hown6 hg6 hat6
         have hb6:Below wr.heap.size wr w6:=Kg BB.out OB.out (Nat.le_refl _) hg6
         have hrow6:w6.ownsRow wr.heap.size 25 1 v6 D dxs:=(by simpa using hown6)
         have hlB:w6.cell? ⟨wr.heap.size+1,0,none⟩=some (.slice ax LX cx):=(World.grownBy.cell_far hg6 ⟨wr.heap.size+1,0,none⟩ (by simp) (by simp[Value.ownBlock])).trans LB1.out
         obtain ⟨a6,c6,e6⟩:=Xj hrow6
         subst e6)
      | (refine Zl (by rfl) _ _ 28 (by rfl) wr.heap.size 25 i0 (.slice none 0 0) 1 24 Tryz.underlying28 hi0 hz0 hs0 hy0 rfl (by decide) _ 0 [] (by rfl) OC.out ad D cd dxs (by rfl) HDL.out (HDS.out _ BC.out) HDO.out (by unfold maxLen; omega) (by omega) (by simp <;> omega) ?_; intro v6 w6 hown6 hg6 hat6
         have hb6:Below wr.heap.size wr w6:=Kg BC.out OC.out (Nat.le_refl _) hg6
         have hrow6:w6.ownsRow wr.heap.size 25 1 v6 D dxs:=(by simpa using hown6)
         have hlC:w6.cell? ⟨wr.heap.size,0,none⟩=some (.slice ax LX cx):=(World.grownBy.cell_far hg6 ⟨wr.heap.size,0,none⟩ (by simp;omega) (by simp[Value.ownBlock])).trans LC1.out
         obtain ⟨a6,c6,e6⟩:=Xj hrow6
         subst e6))
    all_goals
     have HMT8:Hid (MapSt B E d fv fs (Value.slice ao OL co).ownBlock bO W5 c8 fu8 (.slice a8 m8.length cc8) xs8 m8 w8):=by
      refine ⟨hs8,HMT.out.fr.trans hfr8 (HMT.out.own),hl8, ?_,hm8,hfu8⟩
      rcases how8 with e|e
      ·rcases HMT.out.own with e2|e2
       ·exact .inl (e.trans e2)
       ·exact .inr (fun y hy=>e2 y (by rw[←e];exact hy))
      ·exact .inr (fun y hy=>by have:=e y hy;have:=hb7.size;omega)
     have HNW8:=Xa (X3o HNX.out hn8)
     obtain ⟨OL8,hO8⟩:∃OL8,m8.length=OL8:=⟨_,rfl⟩
     rw[hO8] at HMT8⊢
     clear hs8 hf8 hl8 how8 hn8 hm8 hfu8 hfr8 hb7 hO8
     go_wp2_with fail
     go_roundw
     case rel=>exact ⟨k+1,_,_,_,_,by omega,by go_num,HNW8.out,HMT8.out⟩
     case measure=>simp[intOf];omega
   ·have q0:(c==0)=false:=by simpa using h0
    have HNP:Hid (Now R Xy c fu2 out2):=hnow.dead h0 _ _
    obtain ⟨OL2,hO2⟩:∃OL2,out2.length=OL2:=⟨_,rfl⟩
    have HOL2:=Xa hO2
    rw[hO2] at HMT⊢
    clear h0
    clear hnow hms hO2
    go_wp2_with fail
    go_ret
    exact ⟨.slice ao2 OL2 co2,oxs2,out2,c,fu2,rfl,HMT.out.se,(((ButE.of_below HB2.out).trans HB5.out).frx _).trans HMT.out.fr (.inl rfl),HMT.out.lo,by
     rcases HMT.out.own with e|e
     ·exact .inl e
     ·exact .inr (fun y hy=>by have:=e y hy;have:=HG2.out;omega),HNP.out,HMT.out.few,HMT.out.fud⟩
  ·obtain rfl:k=M:=by omega
   have HNP:Hid (Now R Xy c fu2 out2):=hnow.over (by rw[HMQ.out];exact Nat.le_refl _)
   obtain ⟨OL2,hO2⟩:∃OL2,out2.length=OL2:=⟨_,rfl⟩
   have HOL2:=Xa hO2
   rw[hO2] at HMT⊢
   clear hnow hms hO2
   go_wp2_with fail
   go_ret
   exact ⟨.slice ao2 OL2 co2,oxs2,out2,c,fu2,rfl,HMT.out.se,(((ButE.of_below HB2.out).trans HB5.out).frx _).trans HMT.out.fr (.inl rfl),HMT.out.lo,by
    rcases HMT.out.own with e|e
    ·exact .inl e
    ·exact .inr (fun y hy=>by have:=e y hy;have:=HG2.out;omega),HNP.out,HMT.out.few,HMT.out.fud⟩

theorem Xo9 {B E d:Nat} {fv:Value} {fs:List FN} {x:FN} (hok:okF fs=true) (ho:Zs B E fv fs d) (hx:NodeOk fs x) (k9:x.kind=9) (hd:d≤100000):∀mm,Xjs B E d fv fs x mm
 |0=>Xza hx k9
 |mm+1=>Xyb hok ho hx k9 hd (Xo9 hok ho hx k9 hd mm)
set_option maxRecDepth 100000 in
theorem X3m {B E d j n:Nat} {fv v:Value} {fs:List FN} {x:FN} {ns:List VN} {w:World} (hok:okF fs=true) (ho:Zs B E fv fs d) (hx:NodeOk fs x) (k:x.kind=9) (hn:n<fs.length) (hxn:Xr fs n=x) (hse:SE B E fv fs (j+1) 0 w) (hv:NR E w v ns) (hj:j≤d) (hd:d≤100000):
  Calls Tryz.prog 35 #[.pointer (some ⟨E,0,none⟩), .int .i64 n,v] w (RunAns B E (100 *(d+2)) fv fs (evM (Xf fs d) x ns Xk (j,[])).1 (evM (Xf fs d) x ns Xk (j,[])).2.2 (evM (Xf fs d) x ns Xk (j,[])).2.1 w):=by
 obtain ⟨W1,W2,W3,b0,o0,cap,aC,cC,aK,cK,aI,cI,hp⟩:=Qo hse hn hxn
 obtain ⟨hfv,q0,q1,q2,z1,hW1,p0,s0,s1,s2,s3,s4,s5,hW2,hW3,g1,g2,g3,hse3,hbut,hbu3,hbox,hE,hB⟩:=hp
 have HS3:=Xa hse3
 have HBT:=Xa hbut
 have HB3:=Xa hbu3
 have HBX:=Xa hbox
 have HV3:Hid (NR E W3 v ns):=(hv.but hbut).below hbu3
 have HOK:=Xa hv.ok
 have HO:=Xa ho
 have HX:=Xa hx
 have HE:=Xa hE
 obtain ⟨av,cv,rfl⟩:=hv.slice
 obtain ⟨R,hR⟩:∃R,evM (Xf fs d) x ns Xk (j,[])=R:=⟨_,rfl⟩
 have HRR:=Xa hR
 rw[hR]
 have hnI:(n:Int)<(fs.length:Int):=by omega
 have hj0:¬((j:Int)+1=0):=by omega
 have hjb:(j:Int)≤1000000:=by omega
 obtain ⟨NF,hNF⟩:∃NF,fs.length=NF:=⟨_,rfl⟩
 rw[hNF] at q0 p0 hnI hn
 have y0:=(Xc hbu3 (by omega)).trans hbox.c0
 have y1:=(Xc hbu3 (by omega)).trans hbox.c1
 have y2:=(Xc hbu3 (by omega)).trans hbox.c2
 have y3:=(Xc hbu3 (by omega)).trans hbox.c3
 have y4:=(Xc hbu3 (by omega)).trans hbox.c4
 have y5:=(Xc hbu3 (by omega)).trans hbox.c5
 obtain ⟨KK,hKK⟩:∃KK,x.kind=KK:=⟨_,rfl⟩
 rw[hKK] at s0 hW2 y0
 have HC:Hid (Calls Tryz.prog 76 #[.pointer (some ⟨E,0,none⟩), .agg #[.int .i64 x.kind, .string x.name, .int .i64 x.place, .slice aC x.cst.length cC, .slice aK x.names.length cK, .slice aI x.kids.length cI], .slice av ns.length cv, .slice none 0 0, .slice none 0 0] W3 (Xqr B E d fv fs R none W3.heap.size W3)):=by
  have h1:=Xo9 hok ho hx k hd x.kids.length (.slice aC x.cst.length cC) (.slice aK x.names.length cK) (.slice aI x.kids.length cI) (.slice av ns.length cv) ns [] [] (.slice none 0 0) (.slice none 0 0) [] [] W3.heap.size W3.heap.size j W3 (by simp) (hbox.inn.below (hbu3.mono (by omega))) hse3 HV3.out (LR.nil (by omega)) (LR.nil (by omega)) (.inl rfl) (by simp) hj (Nat.le_refl _)
  simp only[List.length_nil,List.drop_zero] at h1
  rw[←Xxu k,hR] at h1
  exact h1
 rw[hKK] at HC
 obtain rfl:KK=9:=by omega
 clear hse hv ho hx hxn hok hR hfv hse3 hbut hbu3 hbox hNF hKK hE hB k
 go_enter Tryz.func35,Tryz.ntmps35
 go_wp2_with fail
 refine HC.out.mono ?_
 rintro e w4 ⟨sv,xs,m,c,fu,rfl,hs4,hf4,hl4,ho4,hn4,hm4,hfu4⟩
 have HNP:=Xa hn4
 have HMC:=Xa hn4.many
 have HS4:=Xa hs4
 have HB4:Hid (ButE E W2 w4):=(ButE.of_below HB3.out).trans (FrX.toBut (ButE.refl _ _) hf4 (fun x hx=>by cases hx))
 have HL4:=Xa hl4
 have HFW:Hid (m.length≤100 *(d+2)):=by unfold Hid;omega
 obtain ⟨a4,c4,rfl⟩:=hl4.slice
 obtain ⟨M,hM⟩:∃M,m.length=M:=⟨_,rfl⟩
 rw[hM] at HMC HL4⊢
 clear hs4 hf4 hl4 ho4 hn4 hm4 hM
 go_wp2_with fail
 refine (Zc a4 M c4 HS4.out).mono ?_
 rintro e w5 ⟨rfl,hs5,hb5⟩
 rw[HMC.out] at hs5
 have HA:=Xa (Q2 (M:=100 *(d+2)) (e:= .returned (.slice a4 M c4)) rfl HNP.out hs5 HBT.out (HB4.out.trans hb5) (HL4.out.keep hb5) (by omega) HE.out HFW.out)
 clear hs5 hb5
 go_wp2_with fail
 go_ret
 exact HA.out

theorem X0d {B E d j n:Nat} {fv v:Value} {fs:List FN} {ns:List VN} {w:World} (hok:okF fs=true) (ho:Zs B E fv fs d) (hn:n<fs.length) (hse:SE B E fv fs (j+1) 0 w) (hv:NR E w v ns) (hj:j≤d) (hd:d≤100000):
  Calls Tryz.prog 35 #[.pointer (some ⟨E,0,none⟩), .int .i64 n,v] w (RunAns B E (100 *(d+2)) fv fs (evM (Xf fs d) (Xr fs n) ns Xk (j,[])).1 (evM (Xf fs d) (Xr fs n) ns Xk (j,[])).2.2 (evM (Xf fs d) (Xr fs n) ns Xk (j,[])).2.1 w):=by
 have hx:=Xkw hok hn
 obtain ⟨x,hxn⟩:∃x,Xr fs n=x:=⟨_,rfl⟩
 rw[hxn] at hx⊢
 have hr:=hx.range
 by_cases k1:x.kind=1
 ·exact X0r hok ho hx k1 hn hxn hse hv hj hd
 by_cases k2:x.kind=2∨x.kind=3
 ·exact X1n hok ho hx k2 hn hxn hse hv hj hd
 by_cases k4:x.kind=4
 ·exact X0s hok ho hx k4 hn hxn hse hv hj hd
 by_cases k5:x.kind=5
 ·exact Xw7 hok ho hx k5 hn hxn hse hv hj hd
 by_cases k6:x.kind=6
 ·exact X2g hok ho hx k6 hn hxn hse hv hj hd
 by_cases k7:x.kind=7
 ·exact Xwq hok ho hx k7 hn hxn hse hv hj hd
 by_cases k8:x.kind=8
 ·have h1:=hx.list k8
  by_cases h0:x.kids.length=0
  ·exact Xy3 hok ho hx k8 h0 hn hxn hse hv hj hd
  ·exact Xxb hok ho hx k8 (by omega) hn hxn hse hv hj hd
 by_cases k9:x.kind=9
 ·exact X3m hok ho hx k9 hn hxn hse hv hj hd
 by_cases k10:x.kind=10
 ·exact Xvk hok ho hx k10 hn hxn hse hv hj hd
 by_cases k11:x.kind=11
 ·exact Xrr hok ho hx k11 hn hxn hse hv hj hd
 by_cases k12:x.kind=12
 ·exact Xw8 hok ho hx k12 hn hxn hse hv hj hd
 by_cases k13:x.kind=13
 ·exact X3c hok ho hx k13 hn hxn hse hv hj hd
 by_cases k14:x.kind=14
 ·exact Xw9 hok ho hx k14 hn hxn hse hv hj hd
 by_cases k15:15≤x.kind∧x.kind≤20
 ·exact X3h hok ho hx k15.1 k15.2 hn hxn hse hv hj hd
 by_cases k21:x.kind=21
 ·exact X21 hok ho hx k21 hn hxn hse hv hj hd
 by_cases k22:x.kind=22
 ·exact X4i hok ho hx k22 hn hxn hse hv hj hd
 ·exact X3d hok ho hx (by omega) hn hxn hse hv hj hd
theorem X0e {B E:Nat} {fv:Value} {fs:List FN} (hok:okF fs=true):∀d,d≤100000→Zs B E fv fs d:=by
 intro d
 induction d with
 | zero =>
  intro _ n v ns fu w hn hs hv hfu
  obtain rfl:fu=0:=by omega
  obtain ⟨a,c,rfl⟩:=hv.slice
  have h1:=Xpt (M:=100 *(0+1)) (l:=(Xf fs 0 n ns 0).l) (n:Int) a ns.length c hs
  exact h1
 | succ d ih =>
  intro hd n v ns fu w hn hs hv hfu
  cases fu with
  | zero =>
   obtain ⟨a,c,rfl⟩:=hv.slice
   have e1:Xf fs (d+1) n ns 0=⟨4,[],0⟩:=by rw[Xf,if_pos rfl]
   rw[e1]
   exact Xpt (M:=100 *(d+1+1)) (n:Int) a ns.length c hs
  | succ j =>
   have h1:=X0d (d:=d) hok (ih (by omega)) hn hs hv (by omega) (by omega)
   obtain ⟨c1,c2,c3⟩:=X3y fs d n j ns rfl
   refine h1.mono ?_
   rintro e w' ⟨sv,xs,m,he,hs',hb,hl,hm,hM⟩
   refine ⟨sv,xs,m,he,by rw[c1,c2];exact hs',hb,hl,fun h=> ?_,by omega⟩
   rw[c1] at h
   rw[c3 h]
   exact hm h

set_option maxRecDepth 100000 in
theorem Xoz (fv v:Value) (fs:List FN) (vs:List VN) (fuel:Int) (w:World) (hf:FNodesAt w.heap.size w fv fs) (hv:NodesAt w.heap.size w v vs) (h1: -9223372036854775808≤fuel) (h2:fuel≤9223372036854775807):
  Calls Tryz.prog 8 #[fv,v, .int .i64 fuel] w fun e w'=>∃r base rs KV IV lo,e= .returned (.tuple #[r, .int .i64 (Xbk fs vs fuel)])∧w.heap.size≤base∧Rows2 base w' r (Ke fs vs fuel).length (Xl (Ke fs vs fuel)) rs KV IV lo∧Below w.heap.size w w':=by
 have HF:=Xa hf
 have HV:=Xa hv
 obtain ⟨_,a,cap,rfl,_⟩:=hv
 obtain ⟨_,af,capf,rfl,_⟩:=hf
 obtain ⟨C,hC⟩:∃C,Xbk fs vs fuel=C:=⟨_,rfl⟩
 obtain ⟨L,hL⟩:∃L,Ke fs vs fuel=L:=⟨_,rfl⟩
 have HNO:Hid (Wk fs vs fuel=false→C=1∧L= []):=fun h=>by rw[←hC,←hL];exact Xp6 h
 have HB0:Hid (Wk fs vs fuel=(okB vs&&okF fs&&decide (0≤fuel)&&decide (fuel≤2000))):=rfl
 have HYES:Hid (Wk fs vs fuel=true→C=(Kq fs vs fuel).c∧((Kq fs vs fuel).c=0→L=(Kq fs vs fuel).l)∧((Kq fs vs fuel).c≠0→L= [])):=fun h=>by
  rw[←hC,←hL]
  unfold Xbk Ke
  rw[if_pos h]
  exact ⟨rfl,fun e=>by rw[if_pos ⟨h,e⟩],fun e=>by rw[if_neg (fun k=>e k.2)]⟩
 have hL40:L.length≤40:=by rw[←hL];exact Xf3
 rw[hC,hL]
 clear hC hL
 have HIN:=Xa (V4 fuel 0 2000)
 obtain ⟨i0,hi0,hz0,hs0,hy0⟩:=info_parts Qu
 go_enter Tryz.func8,Tryz.ntmps8
 go_wp2_with fail
 refine (Xhz w.heap.size _ fs w HF.out (Nat.le_refl _)).mono ?_
 rintro e w1 ⟨rfl,hb1⟩
 have HB1:=Xa hb1
 have z1:=hb1.size
 clear hb1
 cases okf:okF fs
 ·obtain ⟨eC,eL⟩:=HNO.out (by rw[HB0.out,okf];simp)
  subst eC eL
  go_wp2_with fail
  go_ret2
  exact ⟨_,w1.heap.size,_,_,_,_,rfl,z1,Rows2.start (World.ownsRow_nil _ _ _ _) (Nat.le_refl _) _,HB1.out⟩
 ·go_wp2_with fail
  refine (Xbd w.heap.size _ vs w1 (HV.out.below HB1.out) z1).mono ?_
  rintro e w2 ⟨rfl,hb2⟩
  have HB2:=Xa (HB1.out.trans (hb2.mono z1))
  have z2:=HB2.out.size
  clear hb2
  cases ok1:okB vs
  ·obtain ⟨eC,eL⟩:=HNO.out (by rw[HB0.out,ok1];rfl)
   subst eC eL
   go_wp2_with fail
   go_ret2
   exact ⟨_,w2.heap.size,_,_,_,_,rfl,z2,Rows2.start (World.ownsRow_nil _ _ _ _) (Nat.le_refl _) _,HB2.out⟩
  ·go_wp2_with fail
   refine (HIN.out w2).mono ?_
   rintro e w2' ⟨rfl,rfl⟩
   cases hin:inB fuel 0 2000
   ·have hno:¬(0≤fuel∧fuel≤2000):=fun k=>by
     unfold inB at hin
     simp at hin
     omega
    obtain ⟨eC,eL⟩:=HNO.out (by
     rw[HB0.out]
     by_cases f1:0≤fuel
     ·rw[decide_eq_false (show ¬fuel≤2000 by omega)];simp
     ·rw[decide_eq_false f1];simp)
    subst eC eL
    go_wp2_with fail
    go_ret2
    exact ⟨_,w2'.heap.size,_,_,_,_,rfl,z2,Rows2.start (World.ownsRow_nil _ _ _ _) (Nat.le_refl _) _,HB2.out⟩
   ·have hyes:0≤fuel∧fuel≤2000:=by
     unfold inB at hin
     simp at hin
     omega
    obtain ⟨hc,hl0,hl1'⟩:=HYES.out (by rw[HB0.out,ok1,okf,decide_eq_true hyes.1,decide_eq_true hyes.2];rfl)
    obtain ⟨k,rfl⟩:∃k:Nat,fuel=(k:Int):=⟨fuel.toNat,by omega⟩
    have hfs:1≤fs.length∧fs.length≤40:=by
     have:=okf
     unfold okF U9 at this
     simp only[Bool.and_eq_true,decide_eq_true_eq] at this
     exact this.1.1
    have HEV:Hid (∀W,Below w2'.heap.size w2' W→W.heap[w2'.heap.size]? =some (.cells #[.slice af fs.length capf, .int .i64 (k:Int), .int .i64 0] 68 (0,0))→Calls Tryz.prog 35 #[.pointer (some ⟨w2'.heap.size,0,none⟩), .int .i64 ((fs.length:Int)-1), .slice a vs.length cap] W (RunAns w.heap.size w2'.heap.size (100 *(2000+1)) (.slice af fs.length capf) fs (Kq fs vs (k:Int)).c (Kq fs vs (k:Int)).l (Kq fs vs (k:Int)).fu W)):=fun W hb hblk=>by
     have hz:=HB2.out.trans (hb.mono z2)
     have hse:SE w.heap.size w2'.heap.size (.slice af fs.length capf) fs k 0 W:=⟨hblk,HF.out.below hz,z2⟩
     have hnr:NR w2'.heap.size W (.slice a vs.length cap) vs:=NR.old (HV.out.below hz) ok1 z2 hz.size
     have:=X0e okf 2000 (by omega) (fs.length-1) (.slice a vs.length cap) vs k W (by omega) hse hnr (by omega)
     have e1:(((fs.length-1:Nat)):Int)=(fs.length:Int)-1:=by omega
     rw[e1] at this
     exact this
    obtain ⟨r,hr⟩:∃r,Kq fs vs (k:Int)=r:=⟨_,rfl⟩
    rw[hr] at HEV hc hl0 hl1'
    obtain ⟨N,hN⟩:∃N,fs.length=N:=⟨_,rfl⟩
    obtain ⟨NV,hNV⟩:∃NV,vs.length=NV:=⟨_,rfl⟩
    rw[hN] at HEV hfs⊢
    rw[hNV] at HEV⊢
    subst hc
    have HL0:=Xa hl0
    have HL1:=Xa hl1'
    have hbA:Below w2'.heap.size w2' (w2'.alloc (.cells #[.slice af N capf, .int .i64 (k:Int), .int .i64 0] 68)):=(Below.refl _ _).alloc (Nat.le_refl _) _
    have HC:=Xa (HEV.out _ hbA (heap_alloc_new w2' _))
    have HBA:=Xa hbA
    clear hr hN hNV hl0 hl1' hin hbA
    go_wp2_with fail
    refine HC.out.mono ?_
    rintro e w3 ⟨sv,xs,m,rfl,hs3,hb,hl3,hm3,hM3⟩
    have HB3:Hid (Below w.heap.size w w3):=(HB2.out.trans (HBA.out.mono z2)).trans (hb.below z2 (by have:=HBA.out.size;omega))
    have z3:=HB3.out.size
    obtain ⟨_,_,q2,_,_⟩:=hs3.cells
    have HL3:=Xa hl3
    obtain ⟨a4,c4,rfl⟩:=hl3.slice
    by_cases h0:r.c=0
    ·have HLL:=Xa (HL0.out h0)
     obtain rfl:=hm3 h0
     rw[←HLL.out] at HL3⊢
     have H1:=Xa h0
     rw[h0] at q2
     obtain ⟨M,hM⟩:∃M,L.length=M:=⟨_,rfl⟩
     have HM:=Xa hM
     rw[hM] at HL3 hL40⊢
     obtain ⟨W4,hW4⟩:∃W4,w3.alloc (.cells #[] 25)=W4:=⟨_,rfl⟩
     have HB34:Hid (Below w3.heap.size w3 W4):=by rw[Hid,←hW4];exact (Below.refl _ _).alloc (Nat.le_refl _) _
     have HR0:Hid (Rows2 w3.heap.size W4 (.slice (some ⟨w3.heap.size,0,none⟩) 0 0) 0 (Xl L) (fun _=>undef) (fun _ _=>undef) (fun _ _=>undef) (fun _=>w3.heap.size)):=by rw[Hid,←hW4];exact Rows2.start (World.ownsRow_lit w3 #[] 0 (Nat.le_refl _) (by simp[maxLen]) rfl) (by simp) _
     clear hs3 hb hl3 hm3 hM3 h0 hM
     go_wp2_with fail
     go_loopw [10,11] (fun o i wr=>∃(k:Nat) (rs:Nat→Value) (KV IV:Nat→Nat→Value) (lo:Nat→Nat),k≤M∧i= .int .i64 k∧Rows2 w3.heap.size wr o k (Xl L) rs KV IV lo∧Below w3.heap.size w3 wr) (fun o i _=>M-(intOf i).toNat)
     case atStart=>exact ⟨0,_,_,_,_,Nat.zero_le _,rfl,HR0.out,HB34.out⟩
     case round=>
      obtain ⟨k,rs,KV,IV,lo,hk,rfl,hrows,hbl⟩:=hrel
      have HR:=Xa hrows
      have HBL:=Xa hbl
      have zs:=hbl.size
      obtain ⟨ao,co,eo⟩:=Xj hrows.row
      subst eo
      clear hrows
      by_cases hlt:k<M
      ·have hltI:(k:Int)<(M:Int):=by omega
       obtain ⟨b,ax,cx,rfl,hbb,hcell,hnr⟩:=(HL3.out.keepB hbl).cell (j:=k) (by rw[HM.out];exact hlt)
       have HCP:=Xa (Xkp wr.heap.size _ (Xl L k) wr hnr.nodes hnr.ok (Nat.le_refl _))
       obtain ⟨LX,hLX⟩:∃LX,(Xl L k).length=LX:=⟨_,rfl⟩
       have HLX:=Xa hLX
       rw[hLX] at hcell HCP
       clear hbl hnr hLX
       go_wp2_with fail
       refine HCP.out.mono ?_
       rintro e w4 ⟨r4,K,I,rfl,hn4,hb4⟩
       have HN4:=Xa hn4
       obtain ⟨ar,cr,er⟩:=Xj hn4.row
       rw[HLX.out] at er
       subst er
       have HB4:=Xa hb4
       have z4:=hb4.size
       have HROW:=Xa (HR.out.below hb4).row
       clear hn4 hb4
       go_wp2_with (at_builtin;refine wpList_append_own_at _ rfl _ _ 28 rfl w3.heap.size 25 i0 (.slice none 0 0) 1 24 Tryz.underlying28 hi0 hz0 hs0 hy0 rfl (by decide) _ _ _ rfl (HROW.out.alloc _) ⟨w4.heap.size,0,none⟩ 1 1 [.slice ar LX cr] rfl rfl ?c1 ?c2 ?c3 ?c4 ?c5 ?_)
       case c1=>exact cell_one_new _ _ _
       case c2=>intro u hu;simp at hu;subst hu;rfl
       case c3=>unfold maxLen;omega
       case c4=>omega
       case c5=>simp;omega
       intro v' w5 hown hgrow _ _
       have HR5:=Xa (HR.out.snoc HB4.out HN4.out hown hgrow)
       have HB5:Hid (Below w3.heap.size w3 w5):=((HBL.out.trans (HB4.out.mono zs)).alloc (by omega) _).grown hgrow (by simp;omega) (fun x hx=>(HROW.out.lt x hx).1)
       clear hown hgrow
       go_wp2_with fail
       go_roundw
       case rel=>exact ⟨k+1,_,_,_,_,by omega,by go_num,HR5.out,HB5.out⟩
       case measure=>simp[intOf];omega
      ·obtain rfl:k=M:=by omega
       go_wp2_with fail
       go_ret2
       exact ⟨.slice ao k co,w3.heap.size,_,_,_,_,by rw[H1.out];rfl,z3,by rw[HM.out];exact HR.out,HB3.out.trans (hbl.mono z3)⟩
    ·obtain rfl:L= []:=HL1.out h0
     obtain ⟨C,hC⟩:∃C,r.c=C:=⟨_,rfl⟩
     have HCC:=Xa hC
     rw[hC] at q2 h0
     have q0:(C !=0)=true:=by simpa using h0
     have q1:(C==0)=false:=by simpa using h0
     obtain ⟨M,hM⟩:∃M,m.length=M:=⟨_,rfl⟩
     rw[hM]
     clear hs3 hb hl3 hm3 hM3 h0 hC hM
     go_wp2_with fail
     go_quiet (fail)
     have HBQ:=Xa (below_drewN (Below.refl w3.heap.size w3) nq)
     go_wp2_with fail
     go_ret2
     exact ⟨.slice none 0 0,w3.heap.size,_,_,_,_,by rw[HCC.out];rfl,z3,Rows2.start (World.ownsRow_nil _ _ _ _) (by have:=HBQ.out.size;omega) _,HB3.out.trans (HBQ.out.mono z3)⟩
end Go.Proofs.YtdjddneidbddpaaGreatDoor
