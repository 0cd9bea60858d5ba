import Derived.Test.YtdjddneidbddpaaGreatDoorClnV
import Derived.Test.YtdjddneidbddpaaGreatDoorSSort
import Derived.Test.YtdjddneidbddpaaGreatDoorStbN
import Derived.Test.YtdjddneidbddpaaGreatDoorByP
import Derived.Deep.RegionWith
namespace Go.Proofs.YtdjddneidbddpaaGreatDoor
set_option linter.unusedSectionVars false
set_option maxHeartbeats 8000000
open Go.RowKit
set_option linter.unusedSimpArgs false
set_option linter.unusedVariables false
theorem Xre (u:Value):∀w,(callFunc 200 #[u]).run Tryz.prog w= .ok (.enter 200 #[u]) w:=fun w=>by kernel_rfl
theorem Xrf (u:Value):∀w,(callFunc 144 #[u]).run Tryz.prog w= .ok (.enter 144 #[u]) w:=fun w=>by kernel_rfl
def Qw (l l':List ByteArray) (i:Nat):List Nat:=Yx (fun i=>Y5 l' (Xh l i)) i
def wkK (l l':List ByteArray):List ByteArray:=l'++(Qw l l' l.length).map (Xh l)
def wkV (l l':List ByteArray) (V V':Nat→Value) (j:Nat):Value:=if j<l'.length then V' j else V ((Qw l l' l.length).getD (j-l'.length) 0)
theorem X2z (l l':List ByteArray) (V V':Nat→Value):(List.range l'.length).map V'++(Qw l l' l.length).map V=(List.range (wkK l l').length).map (wkV l l' V V'):=by
 apply List.ext_getElem
 ·simp[wkK]
 ·intro i h1 h2
  rw[List.getElem_append]
  split
  ·rename_i h
   have:i<l'.length:=by simpa using h
   simp[wkV,this]
  ·rename_i h
   have:¬i<l'.length:=by simpa using h
   have h3:i-l'.length<(Qw l l' l.length).length:=by simp[wkK] at h2;omega
   simp[wkV,this,h3]
theorem X20 (l l':List ByteArray):l'.map Value.string++(Qw l l' l.length).map (fun i=>Value.string (Xh l i))=(wkK l l').map Value.string:=by
 simp[wkK]
theorem X4j {base:Nat} {wr:World} {v:Value} {n:Nat} {V:Nat→Value} (h:wr.ownsRow base 52 1 v n ((List.range n).map V)) (hi:∀j,j<n→∃t x,V j= .iface t x):Xtp wr v n V:=by
 obtain ⟨a,c,e⟩:=Xj h
 subst e
 refine ⟨a,c,rfl,fun hp=> ?_⟩
 obtain ⟨g,cap,e,_,hlt⟩:=h.form hp
 cases e
 exact ⟨g,rfl,hlt,fun j hj=>⟨by rw[h.cellAt j (by omega)];simp[hj],hi j hj⟩⟩
theorem Xj9 (l l':List ByteArray) {j:Nat} (h:j<(Qw l l' l.length).length):(Qw l l' l.length).getD j 0<l.length:=by
 refine (V9 (fun i=>Y5 l' (Xh l i)) l.length).2 _ ?_
 rw[List.getD_eq_getElem?_getD,List.getElem?_eq_getElem h]
 exact List.getElem_mem _
theorem Xwv {l l':List ByteArray} {V V':Nat→Value} (hV:∀j,j<l.length→∃t x,V j= .iface t x) (hV':∀j,j<l'.length→∃t x,V' j= .iface t x):∀j,j<(wkK l l').length→∃t x,wkV l l' V V' j= .iface t x:=by
 intro j hj
 unfold wkV
 split
 ·rename_i h;exact hV' j h
 ·rename_i h
  refine hV _ (Xj9 l l' ?_)
  simp[wkK] at hj
  omega
theorem Xhr {l l':List ByteArray} {n:Nat} (h1:∀i,i<l.length→(Xh l i).size≤n) (h2:∀i,i<l'.length→(Xh l' i).size≤n):∀i,i<(wkK l l').length→(Xh (wkK l l') i).size≤n:=by
 intro i hi
 by_cases h:i<l'.length
 ·have:Xh (wkK l l') i=Xh l' i:=by unfold wkK Xh;rw[List.getD_eq_getElem?_getD,List.getD_eq_getElem?_getD,List.getElem?_append_left h]
  rw[this];exact h2 i h
 ·have hl:i-l'.length<(Qw l l' l.length).length:=by simp[wkK] at hi;omega
  have:Xh (wkK l l') i=Xh l ((Qw l l' l.length).getD (i-l'.length) 0):=by
   unfold wkK
   rw[Xh,List.getD_eq_getElem?_getD,List.getElem?_append_right (by omega),List.getElem?_map,List.getElem?_eq_getElem hl,List.getD_eq_getElem?_getD,List.getElem?_eq_getElem hl]
   rfl
  rw[this];exact h1 _ (Xj9 l l' hl)
theorem Xdf {w:World} {b e s n b' e' s' n':Nat} {v v':Value} {xs xs':List Value} (h1:w.ownsRow b e s v n xs) (h2:w.ownsRow b' e' s' v' n' xs') (hne:e≠e'):v'.ownBlock=none∨v'.ownBlock≠v.ownBlock:=by
 rcases h2.2 with ⟨rfl,_⟩|⟨g,cap,cur,rfl,_,hg,_⟩
 ·exact Or.inl rfl
 ·refine Or.inr fun e2=> ?_
  rcases h1.2 with ⟨rfl,_⟩|⟨g',cap',cur',rfl,_,hg',_⟩
  ·cases e2
  ·simp[Value.ownBlock] at e2
   subst e2
   rw[hg] at hg'
   cases hg'
   exact hne rfl
set_option maxRecDepth 100000 in
theorem Xka (B:Nat) (kv iv kv' iv':Value) (l l':List ByteArray) (V V':Nat→Value) (w:World) (hk:StrsAt B w kv l) (hi:ValsAt w iv l.length V) (hk':StrsAt B w kv' l') (hi':ValsAt w iv' l'.length V') (hB:B≤w.heap.size) (hr:Xid l') (hn:l.length≤80) (hn':l'.length≤80):
  Calls Tryz.prog 191 #[.agg #[kv,iv], .agg #[kv',iv']] w fun e w'=>∃f k2 i2,e= .returned (.agg #[k2,i2])∧Blk (RK (wkK l l')) (fun p=>(p:Int)) f 0 (wkK l l').length∧w'.ownsRow w.heap.size 9 1 k2 (wkK l l').length (Kx (wkK l l') f (wkK l l').length)∧w'.ownsRow w.heap.size 52 1 i2 (wkK l l').length (Ky (wkV l l' V V') f (wkK l l').length)∧Below w.heap.size w w':=by
 have HK:=Xa hk
 have HI:=Xa hi
 have HK':=Xa hk'
 have HI':=Xa hi'
 have HRI:=Xa hr
 obtain ⟨_,_,ak,ck,rfl,_⟩:=hk
 obtain ⟨ai,ci,rfl,_,_⟩:=hi
 obtain ⟨_,_,ak',ck',rfl,_⟩:=hk'
 obtain ⟨ai',ci',rfl,_,_⟩:=hi'
 obtain ⟨N,hN⟩:∃N,l.length=N:=⟨_,rfl⟩
 obtain ⟨N',hN'⟩:∃N',l'.length=N':=⟨_,rfl⟩
 have HN:=Xa hN
 have HN':=Xa hN'
 rw[hN] at hn⊢
 rw[hN'] at hn'⊢
 rw[hN] at HK HI
 rw[hN'] at HK' HI'
 clear hN hN' hr
 obtain ⟨j0,hj0,hy0,hs0,hbb0⟩:=info_parts Xv5
 obtain ⟨j1,hj1,hy1,hs1,hb1'⟩:=info_parts Xv6
 obtain ⟨W3,hW3⟩:∃W3,W3=((w.alloc (.cells #[.slice ak N ck, .slice ai N ci] 118)).alloc (.cells #[.slice ak' N' ck', .slice ai' N' ci'] 118)).alloc (.cells #[.slice none 0 0, .slice none 0 0] 118):=⟨_,rfl⟩
 have z3:W3.heap.size=w.heap.size+1+1+1:=by rw[hW3];simp
 have HB3:Hid (Below w.heap.size w W3):=by
  rw[Hid,hW3]
  exact (((Below.refl _ _).alloc (Nat.le_refl _) _).alloc (by simp) _).alloc (by simp;omega) _
 have hra:W3.rowIs w.heap.size 118 2 (fun i=>if i=0 then .slice ak N ck else .slice ai N ci):=by
  rw[hW3]
  exact ((World.rowIs_alloc w #[.slice ak N ck, .slice ai N ci] 118 (fun i=>if i=0 then .slice ak N ck else .slice ai N ci) (fun i hi=>by
   match i,hi with
   |0,_=>rfl
   |1,_=>rfl)).alloc _).alloc _
 have hrb:W3.rowIs (w.heap.size+1) 118 2 (fun i=>if i=0 then .slice ak' N' ck' else .slice ai' N' ci'):=by
  rw[hW3]
  have:=((World.rowIs_alloc (w.alloc (.cells #[.slice ak N ck, .slice ai N ci] 118)) #[.slice ak' N' ck', .slice ai' N' ci'] 118 (fun i=>if i=0 then .slice ak' N' ck' else .slice ai' N' ci') (fun i hi=>by
   match i,hi with
   |0,_=>rfl
   |1,_=>rfl)).alloc (.cells #[.slice none 0 0, .slice none 0 0] 118))
  rw[World.size_alloc] at this
  exact this
 have hrc:W3.rowIs (w.heap.size+1+1) 118 2 (fun _=> .slice none 0 0):=by
  rw[hW3]
  have:=World.rowIs_alloc ((w.alloc (.cells #[.slice ak N ck, .slice ai N ci] 118)).alloc (.cells #[.slice ak' N' ck', .slice ai' N' ci'] 118)) #[.slice none 0 0, .slice none 0 0] 118 (fun _=> .slice none 0 0) (fun i hi=>by
   match i,hi with
   |0,_=>rfl
   |1,_=>rfl)
  rw[World.size_alloc,World.size_alloc] at this
  exact this
 have HRA:=Xa hra
 have HRB:=Xa hrb
 have HRC:=Xa hrc
 have hb0:W3.cell? ⟨w.heap.size+1,0,none⟩=some (.slice ak' N' ck'):=hrb.cell (i:=0) (by omega)
 have hb1:W3.cell? ⟨w.heap.size+1,1,none⟩=some (.slice ai' N' ci'):=hrb.cell (i:=1) (by omega)
 have hb0d:W3.drew.cell? ⟨w.heap.size+1,0,none⟩=some (.slice ak' N' ck'):=hb0
 have hb1d:W3.drew.cell? ⟨w.heap.size+1,1,none⟩=some (.slice ai' N' ci'):=hb1
 have hltd:w.heap.size+1<W3.drew.heap.size:=by show w.heap.size+1<W3.heap.size;omega
 have HBD:Hid (Below w.heap.size w W3.drew):=HB3.out.drew
 have HBW:Hid (Below W3.heap.size W3 W3.drew):=(Below.refl _ _).drew
 have HKD:=Xa (HK'.out.below (HBD.out.mono hB))
 have HID:=Xa (HI'.out.below HBD.out)
 have hBd:B≤W3.drew.heap.size:=by show B≤W3.heap.size;omega
 have HW3:=Xa hW3
 clear hW3 hra hrb hrc
 go_enter Tryz.func191,Tryz.ntmps191
 go_wp2_with fail
 rw[←HW3.out]
 go_region_law
  (first
   |(refine Zv (by rfl) 200 _ _ (by rfl) (.slice ak' N' ck') (by rfl) (Xre _) (Xoj B _ l' W3.drew HKD.out hBd) ?_;rintro e w4 ⟨r1,rfl,hr1,hb4⟩;have hS1:=(Xc hb4 hltd).trans hb1d;refine ⟨_,rfl, ?_⟩)
   |(refine Zv (by rfl) 144 _ _ (by rfl) (.slice ai' N' ci') (by rfl) (Xrf _) (Xf8 _ N' V' w4 (HID.out.below hb4) (by omega)) ?_;rintro e w5 ⟨r2,rfl,hr2,hb5⟩;refine ⟨_,rfl, ?_⟩))
 all_goals
  have z4:=hb4.size
  have z5:=hb5.size
  have zd:W3.drew.heap.size=w.heap.size+1+1+1:=z3
  have HB5:Hid (Below W3.heap.size W3 w5):=(HBW.out.trans (hb4.mono (Nat.le_refl _))).trans (hb5.mono (by omega))
  have HR1:Hid (w5.ownsRow W3.heap.size 9 1 r1 (N'+(Qw l l' 0).length) (l'.map .string++(Qw l l' 0).map (fun i=>Value.string (Xh l i)))):=by
   have:=Z2 hr1 hb5 (fun x hx=>(hr1.lt x hx).2)
   rw[HN'.out] at this
   simpa [Hid,Qw,Yx] using this
  have HR2:Hid (w5.ownsRow W3.heap.size 52 1 r2 (N'+(Qw l l' 0).length) ((List.range N').map V'++(Qw l l' 0).map V)):=by
   have:=Qc hr2 (show W3.heap.size≤w4.heap.size by omega)
   simpa [Hid,Qw,Yx] using this
  obtain ⟨a1,c1,er1⟩:=Xj HR1.out
  obtain ⟨a2,c2,er2⟩:=Xj HR2.out
  subst er1 er2
  have xa:w5.cell? ⟨w.heap.size,0,none⟩=some (.slice ak N ck):=(Xc HB5.out (by first|omega|(simp;omega))).trans (HRA.out.cell (i:=0) (by omega))
  clear hr1 hr2 hb4 hb5 hS1 hb0 hb1 hb0d hb1d hltd HKD HID hBd
  go_wp2_with fail
  go_loopw [5,6,20] (fun ks is i wr=>∃k:Nat,k≤N∧i= .int .i64 k∧Hid (wr.ownsRow W3.heap.size 9 1 ks (N'+(Qw l l' k).length) (l'.map .string++(Qw l l' k).map (fun i=>Value.string (Xh l i))))∧Hid (wr.ownsRow W3.heap.size 52 1 is (N'+(Qw l l' k).length) ((List.range N').map V'++(Qw l l' k).map V))∧Hid (Below W3.heap.size W3 wr)) (fun _ _ i _=>N-(intOf i).toNat)
  case atStart=>exact ⟨0,Nat.zero_le _,rfl,HR1,HR2,HB5⟩
  case round=>
   obtain ⟨k,hk,rfl,HS,HT,HB⟩:=hrel
   clear HR1 HR2 HB5 xa
   have zr:=HB.out.size
   have HBW':Hid (Below w.heap.size w wr):=HB3.out.trans (HB.out.mono (by omega))
   obtain ⟨ax,cx,es⟩:=Xj HS.out
   obtain ⟨ay,cy,et⟩:=Xj HT.out
   have hpl:=V9 (fun i=>Y5 l' (Xh l i)) k
   have HPI:=Xa (show Qw l l' (k+1)=if Y5 l' (Xh l k)=true then Qw l l' k else Qw l l' k++ [k] from rfl)
   obtain ⟨ix,hix⟩:∃ix,Qw l l' k=ix:=⟨_,rfl⟩
   change (Qw l l' k).length≤k∧_ at hpl
   have HIX:=Xa hix
   rw[hix] at es et HS HT HPI hpl
   obtain ⟨M,hM⟩:∃M,ix.length=M:=⟨_,rfl⟩
   have HMM:=Xa hM
   have hMk:M≤k:=by rw[←hM];exact hpl.1
   rw[hM] at es et HS HT
   subst es et
   clear hix hM hpl
   have y1:wr.cell? ⟨w.heap.size+1,0,none⟩=some (.slice ak' N' ck'):=(Xc HB.out (by first|omega|(simp;omega))).trans (HRB.out.cell (i:=0) (by omega))
   have y2:wr.cell? ⟨w.heap.size,1,none⟩=some (.slice ai N ci):=(Xc HB.out (by first|omega|(simp;omega))).trans (HRA.out.cell (i:=1) (by omega))
   by_cases hlt:k<N
   ·obtain ⟨_,_,a0,c0,e0,hkc⟩:=HK.out
    injection e0 with e1 e2 e3
    obtain ⟨bK,oK,ea,hbK,hcK⟩:=hkc (by rw[HN.out];omega)
    have eak:=e1.trans ea
    have d1:wr.cell? ⟨bK,oK+k,none⟩=some (.string (Xh l k)):=(Xc HBW'.out (by first|omega|(simp;omega))).trans (hcK k (by rw[HN.out];exact hlt))
    obtain ⟨a0',c0',e0',hvc,hvi⟩:=HI.out
    injection e0' with e1' e2' e3'
    obtain ⟨bI,ea',hbI,hcI⟩:=hvc (by omega)
    have eai:=e1'.trans ea'
    obtain ⟨tI,xI,eI⟩:=hvi k hlt
    have d3:wr.cell? ⟨bI,k,none⟩=some (.iface tI xI):=((Xc HBW'.out hbI).trans (hcI k hlt)).trans (by rw[eI])
    have HSE:=Xa (Xef B _ l' (Xh l k) wr (HK'.out.below (HBW'.out.mono hB)) HRI.out (by rw[HN'.out];omega))
    have HEI:=Xa eI
    subst eak eai
    clear hkc hcK hvc hvi hcI e1 e2 e3 ea e1' e2' e3' ea' eI
    obtain ⟨s,hs⟩:∃s,Xh l k=s:=⟨_,rfl⟩
    have HSS:=Xa hs
    rw[hs] at d1 HSE HPI
    obtain ⟨ps,hps⟩:∃ps:Nat,Z4 l' s=ps:=⟨_,rfl⟩
    rw[hps] at HSE
    clear hs hps
    cases hq:Y5 l' s
    ·rw[hq] at HSE
     have HPK:Hid (Qw l l' (k+1)=ix++ [k]):=by rw[Hid,HPI.out,hq];rfl
     go_wp2_with fail
     refine HSE.out.mono ?_
     rintro e w6 ⟨rfl,rfl⟩
     go_wp2_with (at_builtin;refine wpList_append_own_at _ rfl _ _ 72 rfl W3.heap.size 9 j0 (.string ByteArray.empty) 1 16 Tryz.underlying72 hj0 hy0 hs0 hbb0 rfl (by decide) _ _ _ rfl (HS.out.alloc _) ⟨w6.heap.size,0,none⟩ 1 1 [.string s] rfl rfl ?c1 ?c2 ?c3 ?c4 ?c5 ?_)
     case c1=>exact cell_one_new _ _ _
     case c2=>intro u hu;simp at hu;subst hu;rfl
     case c3=>unfold maxLen;omega
     case c4=>omega
     case c5=>simp;omega
     intro v7 w7 hown hgrow _ _
     have HR7:Hid (w7.ownsRow W3.heap.size 9 1 v7 (N'+(M+1)) (l'.map .string++(Qw l l' (k+1)).map (fun i=>Value.string (Xh l i)))):=by
      rw[Hid,HPK.out,List.map_append]
      simp only[List.map_cons,List.map_nil]
      rw[HSS.out,z3]
      exact hown
     have HT7:=Xa ((HT.out.alloc (.cells #[.string s] 9)).kept hgrow (Xdf (HS.out.alloc (.cells #[.string s] 9)) (HT.out.alloc (.cells #[.string s] 9)) (by decide)))
     have HB7:Hid (Below W3.heap.size W3 w7):=(HB.out.alloc zr _).grown hgrow (by simp;omega) (fun y hy=>(HS.out.lt y hy).1)
     have z7:=HB7.out.size
     have y27:w7.cell? ⟨w.heap.size,1,none⟩=some (.slice (some ⟨bI,0,none⟩) N ci):=(Xc HB7.out (by first|omega|(simp;omega))).trans (HRA.out.cell (i:=1) (by omega))
     have d37:w7.cell? ⟨bI,k,none⟩=some (.iface tI xI):=by
      have h1:=Xc (b:=bI) (o:=k) HB7.out (by first|omega|(simp;omega))
      have h2:=Xc (b:=bI) (o:=k) HB.out (by first|omega|(simp;omega))
      rw[h1,←h2];exact d3
     obtain ⟨av,cv,ev⟩:=Xj HR7.out
     subst ev
     clear hown hgrow d1 d3 y1 y2 HSE
     go_wp2_with (at_builtin;refine wpList_append_own_at _ rfl _ _ 58 rfl W3.heap.size 52 j1 .nilIface 1 16 Tryz.underlying58 hj1 hy1 hs1 hb1' rfl (by decide) _ _ _ rfl (HT7.out.alloc _) ⟨w7.heap.size,0,none⟩ 1 1 [.iface tI xI] rfl rfl ?c1 ?c2 ?c3 ?c4 ?c5 ?_)
     case c1=>exact cell_one_new _ _ _
     case c2=>intro u hu;simp at hu;subst hu;rfl
     case c3=>unfold maxLen;omega
     case c4=>omega
     case c5=>simp;omega
     intro v8 w8 hown hgrow _ _
     have HT8:Hid (w8.ownsRow W3.heap.size 52 1 v8 (N'+(M+1)) ((List.range N').map V'++(Qw l l' (k+1)).map V)):=by
      rw[Hid,HPK.out,List.map_append]
      simp only[List.map_cons,List.map_nil]
      rw[HEI.out,z3]
      exact hown
     have HR8:=Xa ((HR7.out.alloc (.cells #[.iface tI xI] 52)).kept hgrow (Xdf (HT7.out.alloc (.cells #[.iface tI xI] 52)) (HR7.out.alloc (.cells #[.iface tI xI] 52)) (by decide)))
     have HB8:Hid (Below W3.heap.size W3 w8):=(HB7.out.alloc z7 _).grown hgrow (by simp;omega) (fun y hy=>(HT7.out.lt y hy).1)
     have HL8:Hid (N'+(M+1)=N'+(Qw l l' (k+1)).length):=by rw[Hid,HPK.out,List.length_append,HMM.out];rfl
     obtain ⟨aw,cw,ew⟩:=Xj HT8.out
     subst ew
     clear hown hgrow
     go_wp2_with fail
     go_roundw
     case rel=>exact ⟨k+1,by omega,by go_num,by rw[←HL8.out];exact HR8,by rw[←HL8.out];exact HT8,HB8⟩
     case measure=>simp[intOf];omega
    ·rw[hq] at HSE
     have HPK:Hid (Qw l l' (k+1)=ix):=by rw[Hid,HPI.out,hq];rfl
     go_wp2_with fail
     refine HSE.out.mono ?_
     rintro e w6 ⟨rfl,rfl⟩
     go_wp2_with fail
     go_roundw
     case rel=>exact ⟨k+1,by omega,by go_num,by rw[HPK.out,HMM.out];exact HS,by rw[HPK.out,HMM.out];exact HT,HB⟩
     case measure=>simp[intOf];omega
   ·obtain rfl:k=N:=by omega
    have HIL:Hid (Qw l l' l.length=ix):=by rw[Hid,HN.out];exact HIX.out
    have HJL:Hid ((wkK l l').length=N'+M):=by rw[Hid,wkK,List.length_append,List.length_map,HIL.out,HMM.out,HN'.out]
    have hsk:StrsAt wr.heap.size wr (.slice ax (N'+M) cx) (wkK l l'):=by
     have h1:=HS.out
     rw[←HIL.out,X20,←HJL.out] at h1
     have:=Xb7 h1 (by rw[HJL.out];omega) (Xhr HK.out.2.1 HK'.out.2.1)
     rw[HJL.out] at this
     exact this
    have hst:Xtp wr (.slice ay (N'+M) cy) (wkK l l').length (wkV l l' V V'):=by
     have h1:=HT.out
     have hrow:=X2z l l' V V'
     rw[HN'.out] at hrow
     rw[←HIL.out,hrow,←HJL.out] at h1
     have:=X4j h1 (Xwv (fun j hj=>by obtain ⟨_,_,_,_,h⟩:=HI.out;exact h j (by rw[←HN.out];exact hj)) (fun j hj=>by obtain ⟨_,_,_,_,h⟩:=HI'.out;exact h j (by rw[←HN'.out];exact hj)))
     rw[HJL.out] at this
     rw[HJL.out]
     exact this
    have HSM:=Xa (Xl9 wr.heap.size _ _ (wkK l l') (wkV l l' V V') wr hsk hst (Nat.le_refl _) (by rw[HJL.out];omega))
    clear hsk hst y1 y2
    go_wp2_with fail
    refine HSM.out.mono ?_
    rintro e w9 ⟨f,k2,i2,rfl,hblk,hrk,hri,hb9⟩
    have HB9:Hid (Below W3.heap.size W3 w9):=HB.out.trans (hb9.mono zr)
    have z9:=HB9.out.size
    have hr9:w9.rowIs (w.heap.size+1+1) 118 2 (fun _=> .slice none 0 0):=HRC.out.of_block (HB9.out.block _ (by omega))
    have y0:=hr9.cell (i:=0) (by omega)
    have y1:=hr9.cell (i:=1) (by omega)
    have fy:=hr9.frozen
    obtain ⟨ap,cp,ep⟩:=Xj hrk
    obtain ⟨aq,cq,eq'⟩:=Xj hri
    have HBL:=Xa hblk
    have HRK:=Xa hrk
    have HRQ:=Xa hri
    have zb:=hb9.size
    obtain ⟨J,hJ⟩:∃J,(wkK l l').length=J:=⟨_,rfl⟩
    have HJ:=Xa hJ
    rw[hJ] at ep eq' HBL HRK HRQ
    subst ep eq'
    have HK2:=Xa (Qc (Jm (o:=1) (Jm (o:=0) HRK.out (b:=w.heap.size+1+1) (.slice ap J cp) (fun x hx=>by have:=(HRK.out.lt x hx).1;omega)) (b:=w.heap.size+1+1) (.slice aq J cq) (fun x hx=>by have:=(HRK.out.lt x hx).1;omega)) (show w.heap.size≤wr.heap.size by omega))
    have HI2:=Xa (Qc (Jm (o:=1) (Jm (o:=0) HRQ.out (b:=w.heap.size+1+1) (.slice ap J cp) (fun x hx=>by have:=(HRQ.out.lt x hx).1;omega)) (b:=w.heap.size+1+1) (.slice aq J cq) (fun x hx=>by have:=(HRQ.out.lt x hx).1;omega)) (show w.heap.size≤wr.heap.size by omega))
    have HBX:Hid (Below w.heap.size w w9):=HB3.out.trans (HB9.out.mono (by omega))
    clear hblk hrk hri hr9 hJ HSM
    go_wp2_with fail
    refine bodyPost_ret (v:= .agg #[.slice ap J cp, .slice aq J cq]) (by simp[results,Tryz.results191,go_sem,y0,y1]) rfl ⟨f,_,_,rfl,by rw[HJ.out];exact HBL.out,by rw[HJ.out];exact HK2.out,by rw[HJ.out];exact HI2.out, ?_⟩
    exact (HBX.out.setCell (p:=⟨w.heap.size+1+1,0,none⟩) (by simp;omega) _).setCell (p:=⟨w.heap.size+1+1,1,none⟩) (by simp;omega) _
end Go.Proofs.YtdjddneidbddpaaGreatDoor
