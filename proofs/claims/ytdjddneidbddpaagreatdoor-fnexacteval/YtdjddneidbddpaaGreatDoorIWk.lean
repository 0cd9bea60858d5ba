import Derived.Test.YtdjddneidbddpaaGreatDoorClnV
import Derived.Test.YtdjddneidbddpaaGreatDoorSSort
import Derived.Test.YtdjddneidbddpaaGreatDoorStbN
import Derived.Test.YtdjddneidbddpaaGreatDoorByP
import Derived.Deep.RegionWith
namespace Go.Proofs.YtdjddneidbddpaaGreatDoor
set_option linter.unusedSectionVars false
set_option maxRecDepth 100000
set_option maxHeartbeats 8000000
open Go.RowKit
set_option linter.unusedSimpArgs false
set_option linter.unusedVariables false
theorem Xqw (u:Value):∀w,(callFunc 200 #[u]).run Tryz.prog w= .ok (.enter 200 #[u]) w:=fun w=>by kernel_rfl
theorem Xqx (u:Value):∀w,(callFunc 144 #[u]).run Tryz.prog w= .ok (.enter 144 #[u]) w:=fun w=>by kernel_rfl
def Qn (l l':List ByteArray) (i:Nat):List Nat:=Yt (fun i=>Yz l' (Xf l i)) i
def wkK (l l':List ByteArray):List ByteArray:=l'++(Qn l l' l.length).map (Xf l)
def wkV (l l':List ByteArray) (V V':Nat->Value) (j:Nat):Value:=if j<l'.length then V' j else V ((Qn l l' l.length).getD (j-l'.length) 0)
theorem X2r (l l':List ByteArray) (V V':Nat->Value):(List.range l'.length).map V'++(Qn l l' l.length).map V=(List.range (wkK l l').length).map (wkV l l' V V'):=by
 apply List.ext_getElem
 ·simp[wkK]
 ·intro i d b
  rw[List.getElem_append]
  split
  ·rename_i h
   have:i<l'.length:=by simpa using h
   simp[wkV,this]
  ·rename_i h
   have:¬i<l'.length:=by simpa using h
   have c:i-l'.length<(Qn l l' l.length).length:=by simp[wkK] at b;omega
   simp[wkV,this,c]
theorem X2s (l l':List ByteArray):l'.map Value.string++(Qn l l' l.length).map (fun i=>Value.string (Xf l i))=(wkK l l').map Value.string:=by
 simp[wkK]
theorem X38 {base:Nat} {wr:World} {v:Value} {n:Nat} {V:Nat->Value} (h:wr.ownsRow base 52 1 v n ((List.range n).map V)) (hi:∀j,j<n->∃t x,V j= .iface t x):Xs3 wr v n V:=by
 obtain ⟨a,c,e⟩:=Xg h
 subst e
 refine ⟨a,c,rfl,fun hp=> ?_⟩
 obtain ⟨g,d,e,_,b⟩:=h.form hp
 cases e
 exact ⟨g,rfl,b,fun j hj=>⟨by rw[h.cellAt j (by omega)];simp[hj],hi j hj⟩⟩
theorem Xjr (l l':List ByteArray) {j:Nat} (h:j<(Qn l l' l.length).length):(Qn l l' l.length).getD j 0<l.length:=by
 refine (V4 (fun i=>Yz l' (Xf l i)) l.length).2 _ ?_
 rw[List.getD_eq_getElem?_getD,List.getElem?_eq_getElem h]
 exact List.getElem_mem _
theorem Xwd {l l':List ByteArray} {V V':Nat->Value} (hV:∀j,j<l.length->∃t x,V j= .iface t x) (hV':∀j,j<l'.length->∃t x,V' j= .iface t x):∀j,j<(wkK l l').length->∃t x,wkV l l' V V' j= .iface t x:=by
 intro j b
 unfold wkV
 split
 ·rename_i h;exact hV' j h
 ·rename_i h
  refine hV _ (Xjr l l' ?_)
  simp[wkK] at b
  omega
theorem Xha {l l':List ByteArray} {n:Nat} (h1:∀i,i<l.length->(Xf l i).size<=n) (h2:∀i,i<l'.length->(Xf l' i).size<=n):∀i,i<(wkK l l').length->(Xf (wkK l l') i).size<=n:=by
 intro i c
 by_cases h:i<l'.length
 ·have:Xf (wkK l l') i=Xf l' i:=by unfold wkK Xf;rw[List.getD_eq_getElem?_getD,List.getD_eq_getElem?_getD,List.getElem?_append_left h]
  rw[this];exact h2 i h
 ·have b:i-l'.length<(Qn l l' l.length).length:=by simp[wkK] at c;omega
  have:Xf (wkK l l') i=Xf l ((Qn l l' l.length).getD (i-l'.length) 0):=by
   unfold wkK
   rw[Xf,List.getD_eq_getElem?_getD,List.getElem?_append_right (by omega),List.getElem?_map,List.getElem?_eq_getElem b,List.getD_eq_getElem?_getD,List.getElem?_eq_getElem b]
   rfl
  rw[this];exact h1 _ (Xjr l l' b)
theorem Xcw {w:World} {b e s n b' e' s' n':Nat} {v v':Value} {xs xs':List Value} (h1:w.ownsRow b e s v n xs) (h2:w.ownsRow b' e' s' v' n' xs') (hne:e≠e'):v'.ownBlock=none\/v'.ownBlock≠v.ownBlock:=by
 rcases h2.2 with ⟨rfl,_⟩|⟨g,cap,cur,rfl,_,hg,_⟩
 ·exact Or.inl rfl
 ·refine Or.inr fun e2=> ?_
  rcases h1.2 with ⟨rfl,_⟩|⟨g',cap',cur',rfl,_,hg',_⟩
  ·cases e2
  ·simp[Value.ownBlock] at e2
   subst e2
   rw[hg] at hg'
   cases hg'
   exact hne rfl
theorem Xjs (B:Nat) (kv iv kv' iv':Value) (l l':List ByteArray) (V V':Nat->Value) (w:World) (hk:StrsAt B w kv l) (hi:ValsAt w iv l.length V) (hk':StrsAt B w kv' l') (hi':ValsAt w iv' l'.length V') (hB:B<=w.heap.size) (hr:Xhw l') (hn:l.length<=80) (hn':l'.length<=80):
  Calls Tryz.prog 191 #[.agg #[kv,iv], .agg #[kv',iv']] w fun e w'=>∃f k2 i2,e= .returned (.agg #[k2,i2])/\Blk (RK (wkK l l')) (fun p=>(p:Int)) f 0 (wkK l l').length/\w'.ownsRow w.heap.size 9 1 k2 (wkK l l').length (Kq (wkK l l') f (wkK l l').length)/\w'.ownsRow w.heap.size 52 1 i2 (wkK l l').length (Kr (wkV l l' V V') f (wkK l l').length)/\Below w.heap.size w w':=by
 have HK:=Xa hk
 have HI:=Xa hi
 have X:=Xa hk'
 have bm:=Xa hi'
 have c6:=Xa hr
 obtain ⟨_,_,ak,ck,rfl,_⟩:=hk
 obtain ⟨ai,ci,rfl,_,_⟩:=hi
 obtain ⟨_,_,q,t,rfl,_⟩:=hk'
 obtain ⟨z,C,rfl,_,_⟩:=hi'
 obtain ⟨N,hN⟩:∃N,l.length=N:=⟨_,rfl⟩
 obtain ⟨d,Y⟩:∃d,l'.length=d:=⟨_,rfl⟩
 have HN:=Xa hN
 have R:=Xa Y
 rw[hN] at hn|-
 rw[Y] at hn'|-
 rw[hN] at HK HI
 rw[Y] at X bm
 clear hN Y hr
 obtain ⟨j0,c7,c8,c9,b1⟩:=info_parts Xvn
 obtain ⟨j1,da,db,dc,b2⟩:=info_parts Xvo
 obtain ⟨c,F⟩:∃c,c=((w.alloc (.cells #[.slice ak N ck, .slice ai N ci] 118)).alloc (.cells #[.slice q d t, .slice z d C] 118)).alloc (.cells #[.slice none 0 0, .slice none 0 0] 118):=⟨_,rfl⟩
 have z3:c.heap.size=w.heap.size+1+1+1:=by rw[F];simp
 have bn:Hid (Below w.heap.size w c):=by
  rw[Hid,F]
  exact (((Below.refl _ _).alloc (Nat.le_refl _) _).alloc (by simp) _).alloc (by simp;omega) _
 have b3:c.rowIs w.heap.size 118 2 (fun i=>if i=0 then .slice ak N ck else .slice ai N ci):=by
  rw[F]
  exact ((World.rowIs_alloc w #[.slice ak N ck, .slice ai N ci] 118 (fun i=>if i=0 then .slice ak N ck else .slice ai N ci) (fun i hi=>by
   match i,hi with
   |0,_=>rfl
   |1,_=>rfl)).alloc _).alloc _
 have Z:c.rowIs (w.heap.size+1) 118 2 (fun i=>if i=0 then .slice q d t else .slice z d C):=by
  rw[F]
  have:=((World.rowIs_alloc (w.alloc (.cells #[.slice ak N ck, .slice ai N ci] 118)) #[.slice q d t, .slice z d C] 118 (fun i=>if i=0 then .slice q d t else .slice z d C) (fun i hi=>by
   match i,hi with
   |0,_=>rfl
   |1,_=>rfl)).alloc (.cells #[.slice none 0 0, .slice none 0 0] 118))
  rw[World.size_alloc] at this
  exact this
 have b4:c.rowIs (w.heap.size+1+1) 118 2 (fun _=> .slice none 0 0):=by
  rw[F]
  have:=World.rowIs_alloc ((w.alloc (.cells #[.slice ak N ck, .slice ai N ci] 118)).alloc (.cells #[.slice q d t, .slice z d C] 118)) #[.slice none 0 0, .slice none 0 0] 118 (fun _=> .slice none 0 0) (fun i hi=>by
   match i,hi with
   |0,_=>rfl
   |1,_=>rfl)
  rw[World.size_alloc,World.size_alloc] at this
  exact this
 have bo:=Xa b3
 have dd:=Xa Z
 have de:=Xa b4
 have b5:c.cell? ⟨w.heap.size+1,0,none⟩=some (.slice q d t):=Z.cell (i:=0) (by omega)
 have b6:c.cell? ⟨w.heap.size+1,1,none⟩=some (.slice z d C):=Z.cell (i:=1) (by omega)
 have b7:c.drew.cell? ⟨w.heap.size+1,0,none⟩=some (.slice q d t):=b5
 have bi:c.drew.cell? ⟨w.heap.size+1,1,none⟩=some (.slice z d C):=b6
 have bj:w.heap.size+1<c.drew.heap.size:=by show w.heap.size+1<c.heap.size;omega
 have b8:Hid (Below w.heap.size w c.drew):=bn.out.drew
 have df:Hid (Below c.heap.size c c.drew):=(Below.refl _ _).drew
 have b9:=Xa (X.out.below (b8.out.mono hB))
 have ca:=Xa (bm.out.below b8.out)
 have cb:B<=c.drew.heap.size:=by show B<=c.heap.size;omega
 have dg:=Xa F
 clear F b3 Z b4
 go_enter Tryz.func191,Tryz.ntmps191
 go_wp2_with fail
 rw[<-dg.out]
 go_region_law
  (first
   |(refine Zu (by rfl) 200 _ _ (by rfl) (.slice q d t) (by rfl) (Xqw _) (Xn1 B _ l' c.drew b9.out cb) ?_;rintro e w4 ⟨r1,rfl,bp,S⟩;have dh:=(Xc S bj).trans bi;refine ⟨_,rfl, ?_⟩)
   |(refine Zu (by rfl) 144 _ _ (by rfl) (.slice z d C) (by rfl) (Xqx _) (Xft _ d V' w4 (ca.out.below S) (by omega)) ?_;rintro e w5 ⟨r2,rfl,cc,ba⟩;refine ⟨_,rfl, ?_⟩))
 all_goals
  have z4:=S.size
  have z5:=ba.size
  have zd:c.drew.heap.size=w.heap.size+1+1+1:=z3
  have bq:Hid (Below c.heap.size c w5):=(df.out.trans (S.mono (Nat.le_refl _))).trans (ba.mono (by omega))
  have br:Hid (w5.ownsRow c.heap.size 9 1 r1 (d+(Qn l l' 0).length) (l'.map .string++(Qn l l' 0).map (fun i=>Value.string (Xf l i)))):=by
   have:=Ql bp ba (fun x hx=>(bp.lt x hx).2)
   rw[R.out] at this
   simpa [Hid,Qn,Yt] using this
  have bs:Hid (w5.ownsRow c.heap.size 52 1 r2 (d+(Qn l l' 0).length) ((List.range d).map V'++(Qn l l' 0).map V)):=by
   have:=Qj cc (show c.heap.size<=w4.heap.size by omega)
   simpa [Hid,Qn,Yt] using this
  obtain ⟨a1,c1,di⟩:=Xg br.out
  obtain ⟨a2,c2,dj⟩:=Xg bs.out
  subst di dj
  have xa:w5.cell? ⟨w.heap.size,0,none⟩=some (.slice ak N ck):=(Xc bq.out (by first|omega|(simp;omega))).trans (bo.out.cell (i:=0) (by omega))
  clear bp cc S ba dh b5 b6 b7 bi bj b9 ca cb
  go_wp2_with fail
  go_loopw [5,6,20] (fun ks is i wr=>∃k:Nat,k<=N/\i= .int .i64 k/\Hid (wr.ownsRow c.heap.size 9 1 ks (d+(Qn l l' k).length) (l'.map .string++(Qn l l' k).map (fun i=>Value.string (Xf l i))))/\Hid (wr.ownsRow c.heap.size 52 1 is (d+(Qn l l' k).length) ((List.range d).map V'++(Qn l l' k).map V))/\Hid (Below c.heap.size c wr)) (fun _ _ i _=>N-(intOf i).toNat)
  case atStart=>exact ⟨0,Nat.zero_le _,rfl,br,bs,bq⟩
  case round=>
   obtain ⟨k,hk,rfl,HS,HT,HB⟩:=hrel
   clear br bs bq xa
   have zr:=HB.out.size
   have T:Hid (Below w.heap.size w wr):=bn.out.trans (HB.out.mono (by omega))
   obtain ⟨ax,cx,es⟩:=Xg HS.out
   obtain ⟨ay,cy,et⟩:=Xg HT.out
   have bb:=V4 (fun i=>Yz l' (Xf l i)) k
   have bc:=Xa (show Qn l l' (k+1)=if Yz l' (Xf l k)=true then Qn l l' k else Qn l l' k++ [k] from rfl)
   obtain ⟨ix,bt⟩:∃ix,Qn l l' k=ix:=⟨_,rfl⟩
   change (Qn l l' k).length<=k/\_ at bb
   have dk:=Xa bt
   rw[bt] at es et HS HT bc bb
   obtain ⟨M,hM⟩:∃M,ix.length=M:=⟨_,rfl⟩
   have bd:=Xa hM
   have dy:M<=k:=by rw[<-hM];exact bb.1
   rw[hM] at es et HS HT
   subst es et
   clear bt hM bb
   have y1:wr.cell? ⟨w.heap.size+1,0,none⟩=some (.slice q d t):=(Xc HB.out (by first|omega|(simp;omega))).trans (dd.out.cell (i:=0) (by omega))
   have y2:wr.cell? ⟨w.heap.size,1,none⟩=some (.slice ai N ci):=(Xc HB.out (by first|omega|(simp;omega))).trans (bo.out.cell (i:=1) (by omega))
   by_cases hlt:k<N
   ·obtain ⟨_,_,a0,c0,e0,cd⟩:=HK.out
    injection e0 with e1 e2 e3
    obtain ⟨bK,oK,ea,dz,ce⟩:=cd (by rw[HN.out];omega)
    have dl:=e1.trans ea
    have d1:wr.cell? ⟨bK,oK+k,none⟩=some (.string (Xf l k)):=(Xc T.out (by first|omega|(simp;omega))).trans (ce k (by rw[HN.out];exact hlt))
    obtain ⟨d0,d2,dm,cf,cg⟩:=HI.out
    injection dm with e1' e2' e3'
    obtain ⟨bI,ch,dp,cj⟩:=cf (by omega)
    have dq:=e1'.trans ch
    obtain ⟨tI,xI,eI⟩:=cg k hlt
    have d3:wr.cell? ⟨bI,k,none⟩=some (.iface tI xI):=((Xc T.out dp).trans (cj k hlt)).trans (by rw[eI])
    have G:=Xa (Xdw B _ l' (Xf l k) wr (X.out.below (T.out.mono hB)) c6.out (by rw[R.out];omega))
    have dr:=Xa eI
    subst dl dq
    clear cd ce cf cg cj e1 e2 e3 ea e1' e2' e3' ch eI
    obtain ⟨s,hs⟩:∃s,Xf l k=s:=⟨_,rfl⟩
    have ds:=Xa hs
    rw[hs] at d1 G bc
    obtain ⟨ps,cl⟩:∃ps:Nat,Zz l' s=ps:=⟨_,rfl⟩
    rw[cl] at G
    clear hs cl
    cases hq:Yz l' s
    ·rw[hq] at G
     have P:Hid (Qn l l' (k+1)=ix++ [k]):=by rw[Hid,bc.out,hq];rfl
     go_wp2_with fail
     refine G.out.mono ?_
     rintro e w6 ⟨rfl,rfl⟩
     go_wp2_with (at_builtin;refine wpList_append_own_at _ rfl _ _ 72 rfl c.heap.size 9 j0 (.string ByteArray.empty) 1 16 Tryz.underlying72 c7 c8 c9 b1 rfl (by decide) _ _ _ rfl (HS.out.alloc _) ⟨w6.heap.size,0,none⟩ 1 1 [.string s] rfl rfl ?c1 ?c2 ?c3 ?c4 ?c5 ?_)
     case c1=>exact cell_one_new _ _ _
     case c2=>intro u hu;simp at hu;subst hu;rfl
     case c3=>unfold maxLen;omega
     case c4=>omega
     case c5=>simp;omega
     intro v7 w7 D g _ _
     have bu:Hid (w7.ownsRow c.heap.size 9 1 v7 (d+(M+1)) (l'.map .string++(Qn l l' (k+1)).map (fun i=>Value.string (Xf l i)))):=by
      rw[Hid,P.out,List.map_append]
      simp only[List.map_cons,List.map_nil]
      rw[ds.out,z3]
      exact D
     have bv:=Xa ((HT.out.alloc (.cells #[.string s] 9)).kept g (Xcw (HS.out.alloc (.cells #[.string s] 9)) (HT.out.alloc (.cells #[.string s] 9)) (by decide)))
     have be:Hid (Below c.heap.size c w7):=(HB.out.alloc zr _).grown g (by simp;omega) (fun y hy=>(HS.out.lt y hy).1)
     have z7:=be.out.size
     have d4:w7.cell? ⟨w.heap.size,1,none⟩=some (.slice (some ⟨bI,0,none⟩) N ci):=(Xc be.out (by first|omega|(simp;omega))).trans (bo.out.cell (i:=1) (by omega))
     have d5:w7.cell? ⟨bI,k,none⟩=some (.iface tI xI):=by
      have h1:=Xc (b:=bI) (o:=k) be.out (by first|omega|(simp;omega))
      have h2:=Xc (b:=bI) (o:=k) HB.out (by first|omega|(simp;omega))
      rw[h1,<-h2];exact d3
     obtain ⟨av,cv,ev⟩:=Xg bu.out
     subst ev
     clear D g d1 d3 y1 y2 G
     go_wp2_with (at_builtin;refine wpList_append_own_at _ rfl _ _ 58 rfl c.heap.size 52 j1 .nilIface 1 16 Tryz.underlying58 da db dc b2 rfl (by decide) _ _ _ rfl (bv.out.alloc _) ⟨w7.heap.size,0,none⟩ 1 1 [.iface tI xI] rfl rfl ?c1 ?c2 ?c3 ?c4 ?c5 ?_)
     case c1=>exact cell_one_new _ _ _
     case c2=>intro u hu;simp at hu;subst hu;rfl
     case c3=>unfold maxLen;omega
     case c4=>omega
     case c5=>simp;omega
     intro v8 w8 D g _ _
     have cm:Hid (w8.ownsRow c.heap.size 52 1 v8 (d+(M+1)) ((List.range d).map V'++(Qn l l' (k+1)).map V)):=by
      rw[Hid,P.out,List.map_append]
      simp only[List.map_cons,List.map_nil]
      rw[dr.out,z3]
      exact D
     have dt:=Xa ((bu.out.alloc (.cells #[.iface tI xI] 52)).kept g (Xcw (bv.out.alloc (.cells #[.iface tI xI] 52)) (bu.out.alloc (.cells #[.iface tI xI] 52)) (by decide)))
     have du:Hid (Below c.heap.size c w8):=(be.out.alloc z7 _).grown g (by simp;omega) (fun y hy=>(bv.out.lt y hy).1)
     have cn:Hid (d+(M+1)=d+(Qn l l' (k+1)).length):=by rw[Hid,P.out,List.length_append,bd.out];rfl
     obtain ⟨aw,cw,ew⟩:=Xg cm.out
     subst ew
     clear D g
     go_wp2_with fail
     go_roundw
     case rel=>exact ⟨k+1,by omega,by go_num,by rw[<-cn.out];exact dt,by rw[<-cn.out];exact cm,du⟩
     case measure=>simp[intOf];omega
    ·rw[hq] at G
     have P:Hid (Qn l l' (k+1)=ix):=by rw[Hid,bc.out,hq];rfl
     go_wp2_with fail
     refine G.out.mono ?_
     rintro e w6 ⟨rfl,rfl⟩
     go_wp2_with fail
     go_roundw
     case rel=>exact ⟨k+1,by omega,by go_num,by rw[P.out,bd.out];exact HS,by rw[P.out,bd.out];exact HT,HB⟩
     case measure=>simp[intOf];omega
   ·obtain rfl:k=N:=by omega
    have bw:Hid (Qn l l' l.length=ix):=by rw[Hid,HN.out];exact dk.out
    have L:Hid ((wkK l l').length=d+M):=by rw[Hid,wkK,List.length_append,List.length_map,bw.out,bd.out,R.out]
    have co:StrsAt wr.heap.size wr (.slice ax (d+M) cx) (wkK l l'):=by
     have h1:=HS.out
     rw[<-bw.out,X2s,<-L.out] at h1
     have:=Xbq h1 (by rw[L.out];omega) (Xha HK.out.2.1 X.out.2.1)
     rw[L.out] at this
     exact this
    have cr:Xs3 wr (.slice ay (d+M) cy) (wkK l l').length (wkV l l' V V'):=by
     have h1:=HT.out
     have bk:=X2r l l' V V'
     rw[R.out] at bk
     rw[<-bw.out,bk,<-L.out] at h1
     have:=X38 h1 (Xwd (fun j hj=>by obtain ⟨_,_,_,_,h⟩:=HI.out;exact h j (by rw[<-HN.out];exact hj)) (fun j hj=>by obtain ⟨_,_,_,_,h⟩:=bm.out;exact h j (by rw[<-R.out];exact hj)))
     rw[L.out] at this
     rw[L.out]
     exact this
    have cs:=Xa (Xlr wr.heap.size _ _ (wkK l l') (wkV l l' V V') wr co cr (Nat.le_refl _) (by rw[L.out];omega))
    clear co cr y1 y2
    go_wp2_with fail
    refine cs.out.mono ?_
    rintro e w9 ⟨f,k2,i2,rfl,bl,bx,bz,ct⟩
    have b0:Hid (Below c.heap.size c w9):=HB.out.trans (ct.mono zr)
    have z9:=b0.out.size
    have bf:w9.rowIs (w.heap.size+1+1) 118 2 (fun _=> .slice none 0 0):=de.out.of_block (b0.out.block _ (by omega))
    have y0:=bf.cell (i:=0) (by omega)
    have y1:=bf.cell (i:=1) (by omega)
    have fy:=bf.frozen
    obtain ⟨ap,cp,ep⟩:=Xg bx
    obtain ⟨aq,cq,cu⟩:=Xg bz
    have cz:=Xa bl
    have bg:=Xa bx
    have bh:=Xa bz
    have zb:=ct.size
    obtain ⟨J,hJ⟩:∃J,(wkK l l').length=J:=⟨_,rfl⟩
    have HJ:=Xa hJ
    rw[hJ] at ep cu cz bg bh
    subst ep cu
    have dv:=Xa (Qj (Je (o:=1) (Je (o:=0) bg.out (b:=w.heap.size+1+1) (.slice ap J cp) (fun x hx=>by have:=(bg.out.lt x hx).1;omega)) (b:=w.heap.size+1+1) (.slice aq J cq) (fun x hx=>by have:=(bg.out.lt x hx).1;omega)) (show w.heap.size<=wr.heap.size by omega))
    have dw:=Xa (Qj (Je (o:=1) (Je (o:=0) bh.out (b:=w.heap.size+1+1) (.slice ap J cp) (fun x hx=>by have:=(bh.out.lt x hx).1;omega)) (b:=w.heap.size+1+1) (.slice aq J cq) (fun x hx=>by have:=(bh.out.lt x hx).1;omega)) (show w.heap.size<=wr.heap.size by omega))
    have dx:Hid (Below w.heap.size w w9):=bn.out.trans (b0.out.mono (by omega))
    clear bl bx bz bf hJ cs
    go_wp2_with fail
    refine bodyPost_ret (v:= .agg #[.slice ap J cp, .slice aq J cq]) (by simp[results,Tryz.results191,go_sem,y0,y1]) rfl ⟨f,_,_,rfl,by rw[HJ.out];exact cz.out,by rw[HJ.out];exact dv.out,by rw[HJ.out];exact dw.out, ?_⟩
    exact (dx.out.setCell (p:=⟨w.heap.size+1+1,0,none⟩) (by simp;omega) _).setCell (p:=⟨w.heap.size+1+1,1,none⟩) (by simp;omega) _
end Go.Proofs.YtdjddneidbddpaaGreatDoor
