import Derived.Test.YtdjddneidbddpaaGreatDoorSPlsL
import Derived.Test.YtdjddneidbddpaaGreatDoorJoinQ
import Derived.Test.YtdjddneidbddpaaGreatDoorSMapOf
import Derived.Test.YtdjddneidbddpaaGreatDoorCln
namespace Go.Proofs.YtdjddneidbddpaaGreatDoor
set_option linter.unusedSectionVars false
set_option maxHeartbeats 6400000
open Go.RowKit
set_option linter.unusedSimpArgs false
set_option linter.unusedVariables false
theorem X0u (u v:Value):∀w,(callFunc 128 #[u,v]).run Tryz.prog w= .ok (.enter 128 #[u,v]) w:=fun w=>by kernel_rfl
theorem Xsz {B:Nat} {w:World} {v:Value} {us:List VN} (h:NodesAt B w v us) (hl:0<us.length):∃b o c aK cK aI cI,v= .slice (some ⟨b,o,none⟩) us.length c∧b<B∧NodeIn B w (Xd us) (.slice aK (Xd us).keys.length cK) (.slice aI (Xd us).kids.length cI)∧w.cell? ⟨b,o+(us.length-1) *5,none⟩=some (.int .i64 (Xd us).kind)∧w.cell? ⟨b,o+(us.length-1) *5+1,none⟩=some (.int .i64 (Xd us).n)∧w.cell? ⟨b,o+(us.length-1) *5+2,none⟩=some (.string (Xd us).s)∧w.cell? ⟨b,o+(us.length-1) *5+3,none⟩=some (.slice aK (Xd us).keys.length cK)∧w.cell? ⟨b,o+(us.length-1) *5+4,none⟩=some (.slice aI (Xd us).kids.length cI):=by
 obtain ⟨_,a,c,rfl,hc⟩:=h
 obtain ⟨b,o,rfl,hb,hcc⟩:=hc hl
 obtain ⟨ka,ki,hn⟩:=hcc (us.length-1) (by omega)
 have hin:=hn.inn
 obtain ⟨_,_,aK,cK,eK,_⟩:=hn.inn.keys
 obtain ⟨_,_,aI,cI,eI,_⟩:=hn.inn.kids
 subst eK eI
 exact ⟨b,o,c,aK,cK,aI,cI,rfl,hb,hin,hn.c0,hn.c1,hn.c2,hn.c3,hn.c4⟩

theorem Xsk (g j:Nat):(⟨g,0,none⟩:Addr).add j=⟨g,j,none⟩:=by simp[Addr.add];intro h;exact h.symm
theorem Xhn {P:Nat→Prop} {w w':World} {base e s n:Nat} {v:Value} {xs:List Value} (h:w.ownsRow base e s v n xs) (ho:Only P w w') (hP:∀x,v.ownBlock=some x→¬P x):w'.ownsRow base e s v n xs:=by
 refine ⟨h.1, ?_⟩
 rcases h.2 with hn|⟨g,cap,cur,rfl,hg,hgg,rest⟩
 ·exact .inl hn
 ·exact .inr ⟨g,cap,cur,rfl,hg,(ho.2 g (h.lt g rfl).2 (hP g rfl)).trans hgg,rest⟩
theorem Nest.only {P:Nat→Prop} {base:Nat} {w w':World} {v:Value} {vs:List VN} {KV IV:Nat→Value} (h:Nest base w v vs KV IV) (ho:Only P w w') (hP:∀x,U3 v vs.length KV IV x→¬P x):Nest base w' v vs KV IV:=
 ⟨Xhn h.row ho fun x hx=>hP x (.inl hx),fun i hi=>Xhn (h.rk i hi) ho fun x hx=>hP x (.inr ⟨i,hi, .inl hx⟩),fun i hi=>Xhn (h.ri i hi) ho fun x hx=>hP x (.inr ⟨i,hi, .inr hx⟩),h.dkk,h.dii⟩
theorem Xbf {w w':World} {base e s n:Nat} {v:Value} {xs:List Value} (h:w.ownsRow base e s v n xs) (hb:Below w.heap.size w w'):w'.ownsRow base e s v n xs:=Vj h ((From.refl base w).below hb)
def Xj1 (kb lb:Value) (c:Nat):Prop:=kb.ownBlock=some c∨lb.ownBlock=some c
structure Jn (base:Nat) (w3:World) (kb lb:Value) (KS:List ByteArray) (RS:List Value) (kv lv:Value) (wr:World):Prop where
 krow:wr.ownsRow base 9 1 kv KS.length (KS.map .string)
 lrow:wr.ownsRow base 25 1 lv RS.length RS
 only:Only (Xj1 kb lb) w3 wr
 kat:∀x,kv.ownBlock=some x→Xj1 kb lb x∨w3.heap.size≤x
 lat:∀x,lv.ownBlock=some x→Xj1 kb lb x∨w3.heap.size≤x
theorem Jn.below {base:Nat} {w3 wr w':World} {kb lb kv lv:Value} {KS:List ByteArray} {RS:List Value} (h:Jn base w3 kb lb KS RS kv lv wr) (hb:Below wr.heap.size wr w'):Jn base w3 kb lb KS RS kv lv w':=
 ⟨Xbf h.krow hb,Xbf h.lrow hb,h.only.trans (Only.of_below hb),h.kat,h.lat⟩
theorem Xij {P:Nat→Prop} {w3 wr w5:World} {o:Obj} {row:Option Nat} (h:Only P w3 wr) (hg:(wr.alloc o).grownBy w5 row) (hr:∀x,row=some x→P x∨w3.heap.size≤x):Only P w3 w5:=by
 have z:=hg.size
 have z2:=h.1
 simp at z
 refine ⟨by omega,fun c hc hp=> ?_⟩
 rw[hg.block c (by simp;omega) (fun e=>by rcases hr c e.symm with q|q;exact hp q;omega),Below.heap_alloc _ _ _ (by omega)]
 exact h.2 c hc hp
theorem Xng {P:Nat→Prop} {w3 wr:World} {v v':Value} (h:w3.heap.size≤wr.heap.size) (hv:∀x,v.ownBlock=some x→P x∨w3.heap.size≤x) (hat:v'.ownBlock=v.ownBlock∨v'.ownBlock=some (wr.heap.size+1)):∀x,v'.ownBlock=some x→P x∨w3.heap.size≤x:=by
 intro x hx
 rcases hat with e|e
 ·exact hv x (e▸hx)
 ·rw[e] at hx
  injection hx with hx
  exact .inr (by omega)
theorem Jn.pushK {base:Nat} {w3 wr w5:World} {o:Obj} {kb lb kv lv kv':Value} {KS:List ByteArray} {RS:List Value} {s:ByteArray} (h:Jn base w3 kb lb KS RS kv lv wr)
  (hown:w5.ownsRow base 9 1 kv' (KS.length+1) (KS.map .string++ [.string s])) (hg:(wr.alloc o).grownBy w5 kv.ownBlock) (hat:kv'.ownBlock=kv.ownBlock∨kv'.ownBlock=some (wr.heap.size+1)):Jn base w3 kb lb (KS++ [s]) RS kv' lv w5:=
 ⟨by simpa using hown,(h.lrow.alloc o).kept hg (Yo h.lrow h.krow (by decide)),Xij h.only hg h.kat,Xng h.only.1 h.kat hat,h.lat⟩
theorem Jn.pushL {base:Nat} {w3 wr w5:World} {o:Obj} {kb lb kv lv lv':Value} {KS:List ByteArray} {RS:List Value} {r:Value} (h:Jn base w3 kb lb KS RS kv lv wr)
  (hown:w5.ownsRow base 25 1 lv' (RS.length+1) (RS++ [r])) (hg:(wr.alloc o).grownBy w5 lv.ownBlock) (hat:lv'.ownBlock=lv.ownBlock∨lv'.ownBlock=some (wr.heap.size+1)):Jn base w3 kb lb KS (RS++ [r]) kv lv' w5:=
 ⟨(h.krow.alloc o).kept hg (Yo h.krow h.lrow (by decide)),by simpa using hown,Xij h.only hg h.lat,h.kat,Xng h.only.1 h.lat hat⟩
def jK (us vs:List VN) (i:Nat):List ByteArray:=(Xd vs).keys++(Za us vs i).map (Xh (Xd us).keys)
def jR (us vs:List VN) (rs1 rs2:Nat→Value) (i:Nat):List Value:=(List.range (Xe vs).length).map rs2++(Za us vs i).map rs1
theorem Xe7 (us vs:List VN):Za us vs 0= []:=rfl
theorem Xho {us vs:List VN} {i:Nat} (h:Y5 (Xd vs).keys (Xh (Xd us).keys i)=false):Za us vs (i+1)=Za us vs i++ [i]:=by
 unfold Za;rw[Yx,h];rfl
theorem Xj2 {us vs:List VN} {i:Nat} (h:Y5 (Xd vs).keys (Xh (Xd us).keys i)=true):Za us vs (i+1)=Za us vs i:=by
 unfold Za;rw[Yx,h];rfl
theorem X2t (us vs:List VN):jK us vs 0=(Xd vs).keys:=by simp[jK,Xe7]
theorem X2u (us vs:List VN) (rs1 rs2:Nat→Value):jR us vs rs1 rs2 0=(List.range (Xe vs).length).map rs2:=by simp[jR,Xe7]
theorem X4e {us vs:List VN} {i:Nat} (h:Y5 (Xd vs).keys (Xh (Xd us).keys i)=false):jK us vs (i+1)=jK us vs i++ [Xh (Xd us).keys i]:=by simp[jK,Xho h]
theorem X5f {us vs:List VN} {i:Nat} (h:Y5 (Xd vs).keys (Xh (Xd us).keys i)=true):jK us vs (i+1)=jK us vs i:=by simp[jK,Xj2 h]
theorem X4f {us vs:List VN} {rs1 rs2:Nat→Value} {i:Nat} (h:Y5 (Xd vs).keys (Xh (Xd us).keys i)=false):jR us vs rs1 rs2 (i+1)=jR us vs rs1 rs2 i++ [rs1 i]:=by simp[jR,Xho h]
theorem X5g {us vs:List VN} {rs1 rs2:Nat→Value} {i:Nat} (h:Y5 (Xd vs).keys (Xh (Xd us).keys i)=true):jR us vs rs1 rs2 (i+1)=jR us vs rs1 rs2 i:=by simp[jR,Xj2 h]
theorem X4g (us vs:List VN):jK us vs (Xd us).keys.length=Zg us vs:=rfl
theorem Xzr (us vs:List VN) (i:Nat):(Za us vs i).length≤i:=by
 induction i with
 |zero=>simp[Xe7]
 | succ i ih =>
  cases h:Y5 (Xd vs).keys (Xh (Xd us).keys i)
  ·rw[Xho h];simp;omega
  ·rw[Xj2 h];omega
theorem Xwe (us vs:List VN) (rs1 rs2:Nat→Value) (i:Nat):(jR us vs rs1 rs2 i).length=(Xe vs).length+(Za us vs i).length:=by simp[jR]
theorem X4h {us vs:List VN} {rs1 rs2:Nat→Value} {i j:Nat} (hj:j<(Xe vs).length+(Za us vs i).length):(jR us vs rs1 rs2 i).getD j undef=if j<(Xe vs).length then rs2 j else rs1 ((Za us vs i).getD (j-(Xe vs).length) 0):=by
 unfold jR
 rw[List.getD_eq_getElem?_getD]
 split
 ·rename_i h
  rw[List.getElem?_append_left (by simpa using h)]
  simp[h]
 ·rename_i h
  rw[List.getElem?_append_right (by simp;omega)]
  simp only[List.length_map,List.length_range,List.getElem?_map]
  rw[List.getD_eq_getElem?_getD,List.getElem?_eq_getElem (by omega)]
  rfl
theorem Xzs {w:World} {base:Nat} {v:Value} {RS:List Value} (h:w.ownsRow base 25 1 v RS.length RS) (hs:∀j,j<RS.length→∃a n c,RS.getD j undef= .slice a n c):Xtc w.heap.size w v RS.length (fun j=>RS.getD j undef):=by
 obtain ⟨a,c,rfl⟩:=Xj h
 refine ⟨a,c,rfl,hs,fun hp=> ?_⟩
 obtain ⟨g,cap,e,hg,hlt⟩:=h.form hp
 injection e with e1 e2 e3
 refine ⟨g,0,e1,hlt,fun i hi=> ?_⟩
 have:=h.cells (g:=g) (by rw[e1];rfl) i (RS.getD i undef) (by rw[List.getD_eq_getElem?_getD,List.getElem?_eq_getElem hi];rfl)
 rw[Xsk] at this
 simpa using this

set_option maxRecDepth 100000 in
theorem Xui (B:Nat) (v1 v2:Value) (us vs:List VN) (w:World) (hn1:NodesAt B w v1 us) (hn2:NodesAt B w v2 vs) (hB:B≤w.heap.size) (ok1:okB us=true) (ok2:okB vs=true) (hk1:(Xd us).kind=6) (hk2:(Xd vs).kind=6):
  Calls Tryz.prog 131 #[v1,v2] w fun e w'=>∃r base KV IV,e= .returned (.tuple #[r, .int .i64 (Qn us vs)])∧w.heap.size≤base∧Nest base w' r (Zu us vs) KV IV∧Below w.heap.size w w':=by
 obtain ⟨p1a,p1b⟩:=(Xp ok1).1
 obtain ⟨p2a,p2b⟩:=(Xp ok2).1
 obtain ⟨a1,a2⟩:=Y7 ok1 hk1
 obtain ⟨b1',b2'⟩:=Y7 ok2 hk2
 have k1:(Xd us).kids.length=(Xe us).length:=rfl
 have k2:(Xd vs).kids.length=(Xe vs).length:=rfl
 obtain ⟨b1,o1,c1,aK1,cK1,aI1,cI1,rfl,hb1,hin1,d0,d1,d2,d3,d4⟩:=Xsz hn1 (by omega)
 obtain ⟨b2,o2,c2,aK2,cK2,aI2,cI2,rfl,hb2,hin2,g0,g1,g2,g3,g4⟩:=Xsz hn2 (by omega)
 have HM:=Xa (Uf ok1 ok2 (by omega) (by omega) (by omega))
 rw[Xqo hk1] at HM
 have HPT1:=Xa (fun W (hb:Below w.heap.size w W)=>Ku B _ us W (hn1.below (hb.mono hB)) (Nat.le_trans hB hb.size) ok1)
 have HPT2:=Xa (fun W (hb:Below w.heap.size w W)=>Ku B _ vs W (hn2.below (hb.mono hB)) (Nat.le_trans hB hb.size) ok2)
 rw[a1] at hin1 d3
 rw[k1] at hin1 d4
 rw[b1'] at hin2 g3
 rw[k2] at hin2 g4
 obtain ⟨M,hM⟩:∃M,(Xe us).length=M:=⟨_,rfl⟩
 obtain ⟨M',hM'⟩:∃M',(Xe vs).length=M':=⟨_,rfl⟩
 have hM80:M≤80:=by rw[←hM];exact (Zw ok1).2
 have hM80':M'≤80:=by rw[←hM'];exact (Zw ok2).2
 rw[hM] at hin1 d3 d4 HPT1 a1
 rw[hM'] at hin2 g3 g4 HPT2 b1'
 have HI1:=Xa hin1
 have HI2:=Xa hin2
 obtain ⟨N1,hN1⟩:∃N1,us.length=N1:=⟨_,rfl⟩
 obtain ⟨N2,hN2⟩:∃N2,vs.length=N2:=⟨_,rfl⟩
 rw[hN1] at p1a p1b d0 d1 d2 d3 d4 HPT1⊢
 rw[hN2] at p2a p2b g0 g1 g2 g3 g4 HPT2⊢
 have z1:((N1:Int)-1).toNat=N1-1:=by omega
 have z2:((N2:Int)-1).toNat=N2-1:=by omega
 obtain ⟨kx,hkx⟩:∃k,(Xd us).kind=k:=⟨_,rfl⟩
 obtain ⟨ky,hky⟩:∃k,(Xd vs).kind=k:=⟨_,rfl⟩
 obtain ⟨nx,hnx⟩:∃k,(Xd us).n=k:=⟨_,rfl⟩
 obtain ⟨ny,hny⟩:∃k,(Xd vs).n=k:=⟨_,rfl⟩
 obtain ⟨sx,hsx⟩:∃k,(Xd us).s=k:=⟨_,rfl⟩
 obtain ⟨sy,hsy⟩:∃k,(Xd vs).s=k:=⟨_,rfl⟩
 rw[hkx] at d0
 rw[hky] at g0
 rw[hnx] at d1
 rw[hny] at g1
 rw[hsx] at d2
 rw[hsy] at g2
 have q1:(kx==1)=false:=by simp;omega
 have q2:(ky==1)=false:=by simp;omega
 have q3:(kx !=ky)=false:=by simp;omega
 have q4:(kx==3)=false:=by simp;omega
 have q5:(kx==4)=false:=by simp;omega
 have q6:(kx==5)=false:=by simp;omega
 have q7:(kx==6)=true:=by simp;omega
 obtain ⟨WA,hWA⟩:∃WA,(w.alloc (.cells #[.int .i64 kx, .int .i64 nx, .string sx, .slice aK1 M cK1, .slice aI1 M cI1] 75)).alloc (.cells #[.int .i64 ky, .int .i64 ny, .string sy, .slice aK2 M' cK2, .slice aI2 M' cI2] 75)=WA:=⟨_,rfl⟩
 have HWA:=Xa hWA
 have hzA:WA.heap.size=w.heap.size+1+1:=by rw[←hWA];simp
 have HBA:Hid (Below w.heap.size w WA):=by rw[Hid,←hWA];exact ((Below.refl _ _).alloc (Nat.le_refl _) _).alloc (by simp) _
 have hbx:Below w.heap.size w (w.alloc (.cells #[.int .i64 kx, .int .i64 nx, .string sx, .slice aK1 M cK1, .slice aI1 M cI1] 75)):=(Below.refl _ _).alloc (Nat.le_refl _) _
 have e0:=(Xc hbx (show b2<w.heap.size by omega)).trans g0
 have e1:=(Xc hbx (show b2<w.heap.size by omega)).trans g1
 have e2:=(Xc hbx (show b2<w.heap.size by omega)).trans g2
 have e3:=(Xc hbx (show b2<w.heap.size by omega)).trans g3
 have e4:=(Xc hbx (show b2<w.heap.size by omega)).trans g4
 obtain ⟨j0,hj0,hy0,hs0,hbb0⟩:=info_parts Xoi
 obtain ⟨i0,hi0,hz0,hs1,hy1⟩:=info_parts Xh5
 have HOWN:Hid ((((w.alloc (.cells #[.int .i64 kx, .int .i64 nx, .string sx, .slice aK1 M cK1, .slice aI1 M cI1] 75)).alloc (.cells #[.int .i64 ky, .int .i64 ny, .string sy, .slice aK2 M' cK2, .slice aI2 M' cI2] 75)).alloc (.cells #[] 9)).ownsRow (w.heap.size+1+1) 9 1 (.slice (some ⟨w.heap.size+1+1,0,none⟩) 0 0) 0 []):=by
  have:=World.ownsRow_lit (base:=WA.heap.size) (e:=9) (size:=1) WA #[] 0 (Nat.le_refl _) (by simp[maxLen]) rfl
  rw[hzA,←hWA] at this
  simpa [Hid] using this
 have HBE:Hid (Below w.heap.size w (((w.alloc (.cells #[.int .i64 kx, .int .i64 nx, .string sx, .slice aK1 M cK1, .slice aI1 M cI1] 75)).alloc (.cells #[.int .i64 ky, .int .i64 ny, .string sy, .slice aK2 M' cK2, .slice aI2 M' cI2] 75)).alloc (.cells #[] 9))):=(((Below.refl _ _).alloc (Nat.le_refl _) _).alloc (by simp) _).alloc (by simp;omega) _
 have HZE:Hid (Below (w.heap.size+1+1) WA (((w.alloc (.cells #[.int .i64 kx, .int .i64 nx, .string sx, .slice aK1 M cK1, .slice aI1 M cI1] 75)).alloc (.cells #[.int .i64 ky, .int .i64 ny, .string sy, .slice aK2 M' cK2, .slice aI2 M' cI2] 75)).alloc (.cells #[] 9))):=by
  rw[Hid,hWA];exact (Below.refl _ _).alloc (by omega) _
 have HSRC:Hid (0<M'→∃ad',aK2=some ad'∧∀j u,((Xd vs).keys.map Value.string)[j]? =some u→(((w.alloc (.cells #[.int .i64 kx, .int .i64 nx, .string sx, .slice aK1 M cK1, .slice aI1 M cI1] 75)).alloc (.cells #[.int .i64 ky, .int .i64 ny, .string sy, .slice aK2 M' cK2, .slice aI2 M' cI2] 75)).alloc (.cells #[] 9)).cell? (ad'.add j)=some u):=by
  intro hp
  obtain ⟨_,_,a,cap,ev,hcc⟩:=hin2.keys
  rw[b1'] at hcc ev
  obtain ⟨bk,ok,e,hbk,hck⟩:=hcc hp
  have ea:aK2=a:=by injection ev
  refine ⟨⟨bk,ok,none⟩,by rw[ea,e],fun j u hj=> ?_⟩
  have hj':j<M':=by have:=(List.getElem?_eq_some_iff.1 hj).1;rw[List.length_map,b1'] at this;exact this
  rw[show (⟨bk,ok,none⟩:Addr).add j=⟨bk,ok+j,none⟩ by simp[Addr.add],Xc HBE.out (by omega),hck j hj']
  rw[List.getElem?_map] at hj
  simp only[Xh,List.getD]
  cases hq:(Xd vs).keys[j]? with
  |none=>rw[hq] at hj;cases hj
  |some t=>rw[hq] at hj;simpa using hj
 have HZA:=Xa hzA
 have HX3:Hid (WA.cell? ⟨w.heap.size,3,none⟩=some (.slice aK1 M cK1)):=by rw[Hid,←hWA];simp
 have HY0:Hid (WA.cell? ⟨w.heap.size+1,0,none⟩=some (.int .i64 ky)):=by rw[Hid,←hWA];simp
 have HY1:Hid (WA.cell? ⟨w.heap.size+1,1,none⟩=some (.int .i64 ny)):=by rw[Hid,←hWA];simp
 have HY2:Hid (WA.cell? ⟨w.heap.size+1,2,none⟩=some (.string sy)):=by rw[Hid,←hWA];simp
 have HY3:Hid (WA.cell? ⟨w.heap.size+1,3,none⟩=some (.slice aK2 M' cK2)):=by rw[Hid,←hWA];simp
 have HY4:Hid (WA.cell? ⟨w.heap.size+1,4,none⟩=some (.slice aI2 M' cI2)):=by rw[Hid,←hWA];simp
 have HLK:Hid ((Xd vs).keys.length=M'):=b1'
 have HLU:Hid ((Xd us).keys.length=M):=a1
 have HRV:Hid ((Xe vs).length=M'):=hM'
 have HRU:Hid ((Xe us).length=M):=hM
 have HKID:Hid (∀(key:ByteArray) (W:World),Below w.heap.size w W→Calls Tryz.prog 128 #[.agg #[.int .i64 ky, .int .i64 ny, .string sy, .slice aK2 M' cK2, .slice aI2 M' cI2], .agg #[.bool true, .string key, .int .i64 0]] W fun e w'=>e= .returned (.int .i64 (Jt (Q8 (Xd vs) ⟨true,key,0⟩)))∧Below W.heap.size W w'):=by
  intro key W hb
  have:=Uh B (Xd vs) (.slice aK2 M' cK2) (.slice aI2 M' cI2) ⟨true,key,0⟩ W (hin2.below (hb.mono hB)) (Nat.le_trans hB hb.size) (fun _=>⟨Jh b2',by rw[b1'];omega⟩) (.inl rfl) (by rw[k2,hM'];omega) ⟨by simp,by simp⟩
  rw[hky,hny,hsy] at this
  exact this
 have HKH:Hid (∀key,decide (Jt (Q8 (Xd vs) ⟨true,key,0⟩)<0)= !Y5 (Xd vs).keys key):=fun key=>X2r hk2
 have HKU:Hid (∀W,Below w.heap.size w W→0<M→∃bk ok,aK1=some ⟨bk,ok,none⟩∧∀i,i<M→W.cell? ⟨bk,ok+i,none⟩=some (.string (Xh (Xd us).keys i))):=by
  intro W hb hp
  obtain ⟨_,_,a,cap,ev,hcc⟩:=hin1.keys
  rw[a1] at hcc ev
  obtain ⟨bk,ok,e,hbk,hck⟩:=hcc hp
  have ea:aK1=a:=by injection ev
  exact ⟨bk,ok,by rw[ea,e],fun i hi=>(Xc hb (by omega)).trans (hck i hi)⟩
 have HKB:Hid (∀bk ok,aK1=some ⟨bk,ok,none⟩→0<M→bk<B):=by
  intro bk ok e hp
  obtain ⟨_,_,a,cap,ev,hcc⟩:=hin1.keys
  rw[a1] at hcc ev
  obtain ⟨bk',ok',e',hbk,_⟩:=hcc hp
  have ea:aK1=a:=by injection ev
  rw[ea,e'] at e
  injection e with e
  injection e with e1
  omega
 have HFU:=Xa hn1.fits
 have HFV:=Xa hn2.fits
 have HSZ:Hid (∀i,i<(Zg us vs).length→(Xh (Zg us vs) i).size≤140737488355328):=
  Xhr (hn1.fits (us.length-1) (by omega)).keysS (hn2.fits (vs.length-1) (by omega)).keysS
 have HF1:=Xa (Kz hn1.fits)
 have HF2:=Xa (Kz hn2.fits)
 have ep1:Zm us=(Xe us).length:=by unfold Zm;rw[if_pos ok1]
 have ep2:Zm vs=(Xe vs).length:=by unfold Zm;rw[if_pos ok2]
 rw[ep1] at HF1
 rw[ep2] at HF2
 clear ep1 ep2
 clear hbx g0 g1 g2 g3 g4 hN1 hN2 hWA hin1 hin2
 go_enter Tryz.func131,Tryz.ntmps131
 go_wp2_with (at_builtin;refine Ye rfl _ _ 72 rfl (w.heap.size+1+1) 9 j0 (.string ByteArray.empty) 1 16 Tryz.underlying72 hj0 hy0 hs0 hbb0 rfl (by decide) _ 0 [] rfl HOWN.out aK2 M' cK2 ((Xd vs).keys.map .string) rfl (by rw[List.length_map,HLK.out];omega) HSRC.out ?c2 ?c3 ?c4 ?c5 ?_)
 case c2=>intro u hu;obtain ⟨q,_,rfl⟩:=List.mem_map.1 hu;rfl
 case c3=>unfold maxLen;omega
 case c4=>omega
 case c5=>simp
 intro kv0 w1 hk1' hg1 hat1
 (try simp only[Nat.zero_add,List.nil_append] at hk1')
 have HZ1:Hid (Below (w.heap.size+1+1) WA w1):=HZE.out.grown hg1 (by simp) (fun x hx=>by simp[Value.ownBlock] at hx;omega)
 have HB1:Hid (Below w.heap.size w w1):=HBA.out.trans (HZ1.out.mono (by omega))
 have HK1:=Xa hk1'
 obtain ⟨ak0,ck0,ek0⟩:=Xj hk1'
 subst ek0
 clear hk1' hg1 hat1
 go_wp2_with fail
 refine (HPT2.out _ HB1.out).mono ?_
 rintro e w2 ⟨r2,rs2,K2,I2,lo2,rfl,hr2,hb2'⟩
 have HBW2:=Xa hb2'
 have HB2:=Xa (HB1.out.trans (hb2'.mono HB1.out.size))
 have HR2:=Xa hr2
 obtain ⟨aG,cG,eG⟩:=Xj hr2.row
 subst eG
 clear hr2 hb2'
 go_wp2_with fail
 refine (HPT1.out _ HB2.out).mono ?_
 rintro e w3 ⟨r1,rs1,K1,I1,lo1,rfl,hr1,hb3'⟩
 have HBW3:=Xa hb3'
 have HB3:=Xa (HB2.out.trans (hb3'.mono HB2.out.size))
 have HR1:=Xa hr1
 obtain ⟨aM,cM,eM⟩:=Xj hr1.row
 subst eM
 clear hr1 hb3'
 have y1:=HZ1.out.size
 have y2:=HBW2.out.size
 have y3:=HBW3.out.size
 have HZ3:=Xa ((HZ1.out.trans (HBW2.out.mono (by omega))).trans (HBW3.out.mono (by omega)))
 have HR2':=Xa (HR2.out.below HBW3.out)
 have HK3:=Xa (Xbf (Xbf HK1.out HBW2.out) HBW3.out)
 have HJ0:Hid (Jn (w.heap.size+1+1) w3 (.slice ak0 M' ck0) (.slice aG M' cG) (jK us vs 0) (jR us vs rs1 rs2 0) (.slice ak0 M' ck0) (.slice aG M' cG) w3):=by
  refine ⟨?_, ?_,Only.refl _ _,fun x hx=> .inl (.inl hx),fun x hx=> .inl (.inr hx)⟩
  ·rw[X2t,HLK.out];exact HK3.out
  ·rw[X2u,HRV.out,List.length_map,List.length_range];exact Qc HR2'.out.row (by omega)
 have HLO:Hid (∀c,Xj1 (.slice ak0 M' ck0) (.slice aG M' cG) c→w.heap.size+1+1≤c∧c<w2.heap.size):=by
  rintro c (hc|hc)
  ·have:=(HK1.out.lt c hc);omega
  ·have:=(HR2.out.row.lt c hc);omega
 have HFAR1:Hid (∀i,i<M→∀x,U3 (rs1 i) (PL us i).length (K1 i) (I1 i) x→¬Xj1 (.slice ak0 M' ck0) (.slice aG M' cG) x):=by
  intro i hi x hx ht
  have h1:=((HR1.out.nest i hi).inn hx).1
  have h2:=HR1.out.low i (by omega)
  have h3:=(HLO.out x ht).2
  omega
 have HFAR2:Hid (∀i,i<M'→∀x,U3 (rs2 i) (PL vs i).length (K2 i) (I2 i) x→¬Xj1 (.slice ak0 M' ck0) (.slice aG M' cG) x):=by
  rintro i hi x hx (ht|ht)
  ·have h1:=((HR2.out.nest i hi).inn hx).1
   have h2:=HR2.out.low i (by omega)
   have h3:=(HK1.out.lt x ht).2
   omega
  ·exact (HR2.out.nest i hi).far HR2.out.row hx ht
 have HMS:Hid (0<M→∃ad,aM=some ⟨ad,0,none⟩∧w2.heap.size≤ad∧ad<w3.heap.size∧∀j,j<M→w3.cell? ⟨ad,j,none⟩=some (rs1 j)):=by
  intro hp
  obtain ⟨g,cap,e,hg,hlt⟩:=HR1.out.row.form hp
  injection e with e1 e2 e3
  refine ⟨g,e1,hg,hlt,fun j hj=> ?_⟩
  have:=HR1.out.row.cells (g:=g) (by rw[e1];rfl) j (rs1 j) (by simp[hj])
  rw[Xsk] at this
  simpa using this
 go_wp2_with fail
 go_loopw [8,9,11] (fun kv lv i wr=>∃k:Nat,k≤M∧i= .int .i64 k∧Jn (w.heap.size+1+1) w3 (.slice ak0 M' ck0) (.slice aG M' cG) (jK us vs k) (jR us vs rs1 rs2 k) kv lv wr∧Below (w.heap.size+1+1) WA wr) (fun _ _ i _=>M-(intOf i).toNat)
 case atStart=>exact ⟨0,Nat.zero_le _,rfl,HJ0.out,HZ3.out⟩
 case round =>
  obtain ⟨k,hk,rfl,hj,hz⟩:=hrel
  have HJ:=Xa hj
  have HZ:=Xa hz
  obtain ⟨ak,ck,ek⟩:=Xj hj.krow
  obtain ⟨al,cl,el⟩:=Xj hj.lrow
  obtain ⟨p,hp⟩:∃p,(jK us vs k).length=p:=⟨_,rfl⟩
  obtain ⟨q,hq⟩:∃q,(jR us vs rs1 rs2 k).length=q:=⟨_,rfl⟩
  rw[hp] at ek
  rw[hq] at el
  subst ek el
  have HP:=Xa hp
  have HQ:=Xa hq
  have hml:=Xzr us vs k
  have hp2:p≤160:=by rw[←hp,jK];rw[List.length_append,List.length_map,HLK.out];omega
  have hq2:q≤160:=by rw[←hq,jR];rw[List.length_append,List.length_map,List.length_map,List.length_range,HRV.out];omega
  have x3:=(Xc HZ.out (show w.heap.size<w.heap.size+1+1 by omega)).trans HX3.out
  have HBw:=Xa (HBA.out.trans (hz.mono (by omega)))
  have zs:=hz.size
  clear hj hz hp hq hml
  by_cases hlt:k<M
  ·obtain ⟨bk,ok,rfl,hkc⟩:=HKU.out wr HBw.out (by omega)
   obtain ⟨key,hkey⟩:∃key,Xh (Xd us).keys k=key:=⟨_,rfl⟩
   have ckey:=hkc k hlt
   rw[hkey] at ckey
   have HKEY:=Xa hkey
   have hbk:bk<w.heap.size:=by have:=HKB.out bk ok rfl (by omega);omega
   clear hkc hkey
   have y0':=(Xc HZ.out (show w.heap.size+1<w.heap.size+1+1 by omega)).trans HY0.out
   have y1':=(Xc HZ.out (show w.heap.size+1<w.heap.size+1+1 by omega)).trans HY1.out
   have y2':=(Xc HZ.out (show w.heap.size+1<w.heap.size+1+1 by omega)).trans HY2.out
   have y3':=(Xc HZ.out (show w.heap.size+1<w.heap.size+1+1 by omega)).trans HY3.out
   have y4':=(Xc HZ.out (show w.heap.size+1<w.heap.size+1+1 by omega)).trans HY4.out
   have CK:=HKID.out key wr.drew (HBw.out.drew)
   obtain ⟨kr,hkr⟩:∃kr,Jt (Q8 (Xd vs) ⟨true,key,0⟩)=kr:=⟨_,rfl⟩
   have hdk:=HKH.out key
   rw[hkr] at CK hdk
   have HCK:=Xa CK
   clear hkr CK
   have hlt':(k:Int)<(M:Int):=by omega
   have hk0:(0:Int)≤(k:Int):=by omega
   go_wp2_with fail
   go_region_law (refine Qh (by rfl) 128 _ _ _ _ (by rfl) (.agg #[.int .i64 ky, .int .i64 ny, .string sy, .slice aK2 M' cK2, .slice aI2 M' cI2]) (.agg #[.bool true, .string key, .int .i64 0]) (by rfl) (by rfl) (X0u _ _) HCK.out ?_;rintro e w4 ⟨rfl,hb4⟩;refine ⟨_,rfl, ?_⟩)
   all_goals (
    have HBD:=Xa ((Below.refl wr.heap.size wr).drew.trans hb4)
    have HJ4:=Xa (HJ.out.below HBD.out)
    have HZ4:=Xa (HZ.out.trans (HBD.out.mono (Nat.le_trans (Nat.le_of_eq HZA.out.symm) zs)))
    have z4:=HBD.out.size
    have x4:=(Xc HBD.out (show w.heap.size<wr.heap.size by omega)).trans x3
    have c4:=(Xc HBD.out (show bk<wr.heap.size by omega)).trans ckey
    have HKR:Hid (w4.ownsRow (w.heap.size+1+1) 9 1 (.slice ak p ck) p ((jK us vs k).map .string)):=by
     have:=HJ4.out.krow
     rw[HP.out] at this
     exact this
    clear hb4 x3 ckey y0' y1' y2' y3' y4'
    cases hh:Y5 (Xd vs).keys key
    ·have hkr0:kr<0:=by rw[hh] at hdk;simpa using hdk
     have HNO:=Xa (show Y5 (Xd vs).keys (Xh (Xd us).keys k)=false by rw[HKEY.out];exact hh)
     clear hh hdk
     go_wp2_with (at_builtin;refine wpList_append_own_at _ rfl _ _ 72 rfl (w.heap.size+1+1) 9 j0 (.string ByteArray.empty) 1 16 Tryz.underlying72 hj0 hy0 hs0 hbb0 rfl (by decide) _ _ _ rfl (HKR.out.alloc _) ⟨w4.heap.size,0,none⟩ 1 1 [.string key] rfl rfl ?c1 ?c2 ?c3 ?c4 ?c5 ?_)
     case c1=>exact cell_one_new _ _ _
     case c2=>intro u hu;simp at hu;subst hu;rfl
     case c3=>unfold maxLen;omega
     case c4=>omega
     case c5=>simp;omega
     intro kv5 w5 hown hgrow _ hat
     have HJ5:=Xa (HJ4.out.pushK (s:=key) (by rw[HP.out];exact hown) hgrow hat)
     have HZ5:Hid (Below (w.heap.size+1+1) WA w5):=(HZ4.out.alloc (by omega) _).grown hgrow (by simp;omega) (fun x hx=>(HKR.out.lt x hx).1)
     obtain ⟨ak5,ck5,ek5⟩:=Xj hown
     subst ek5
     obtain ⟨ad,hadm,ha2,ha3,hac⟩:=HMS.out (by omega)
     subst hadm
     obtain ⟨ar,cr,er⟩:=Xj (HR1.out.nest k hlt).row
     obtain ⟨Lk,hLk⟩:∃Lk,(PL us k).length=Lk:=⟨_,rfl⟩
     rw[hLk] at er
     have m5:=(HJ5.out.only.cell ha3 (fun ht=>by have:=(HLO.out ad ht).2;omega)).trans (hac k hlt)
     rw[er] at m5
     have HLR:Hid (w5.ownsRow (w.heap.size+1+1) 25 1 (.slice al q cl) q (jR us vs rs1 rs2 k)):=by
      have:=HJ5.out.lrow
      rw[HQ.out] at this
      exact this
     have HER:=Xa er
     have z5:=HZ5.out.size
     clear hown hgrow hat hac er hLk
     go_wp2_with (at_builtin;refine wpList_append_own_at _ rfl _ _ 28 rfl (w.heap.size+1+1) 25 i0 (.slice none 0 0) 1 24 Tryz.underlying28 hi0 hz0 hs1 hy1 rfl (by decide) _ _ _ rfl (HLR.out.alloc _) ⟨w5.heap.size,0,none⟩ 1 1 [.slice ar Lk cr] rfl rfl ?c1 ?c2 ?c3 ?c4 ?c5 ?_)
     case c1=>exact cell_one_new _ _ _
     case c2=>intro u hu;simp at hu;subst hu;rfl
     case c3=>unfold maxLen;omega
     case c4=>omega
     case c5=>simp;omega
     intro lv7 w7 hown hgrow _ hat
     have HJ7:=Xa (HJ5.out.pushL (r:= .slice ar Lk cr) (by rw[HQ.out];exact hown) hgrow hat)
     have HZ7:Hid (Below (w.heap.size+1+1) WA w7):=(HZ5.out.alloc (by omega) _).grown hgrow (by simp;omega) (fun x hx=>(HLR.out.lt x hx).1)
     clear hown hgrow hat
     go_wp2_with fail
     refine ⟨⟨k+1,by omega,by go_num, ?_,HZ7.out⟩,by simp[intOf];omega⟩
     rw[X4e HNO.out,X4f HNO.out,HKEY.out,HER.out]
     exact HJ7.out
    ·have hkr0:¬kr<0:=by rw[hh] at hdk;simpa using hdk
     have HYE:=Xa (show Y5 (Xd vs).keys (Xh (Xd us).keys k)=true by rw[HKEY.out];exact hh)
     clear hh hdk
     go_wp2_with fail
     refine ⟨⟨k+1,by omega,by go_num, ?_,HZ4.out⟩,by simp[intOf];omega⟩
     rw[X5f HYE.out,X5g HYE.out]
     exact HJ4.out)
  ·obtain rfl:k=M:=by omega
   have HKA:Hid (jK us vs k=Zg us vs):=by rw[Hid,←HLU.out];exact X4g us vs
   have HNL:Hid ((Zg us vs).length=Y4 us vs):=by
    rw[Hid,Zg,Y4,List.length_append,List.length_map,HLK.out,HRV.out]
   have HRL:Hid ((jR us vs rs1 rs2 k).length=Y4 us vs):=by
    rw[Hid,Xwe,Y4,←HLU.out]
   have hpN:p=Y4 us vs:=by rw[←HP.out,HKA.out,HNL.out]
   have hqN:q=Y4 us vs:=by rw[←HQ.out,HRL.out]
   have HSHAPE:Hid (∀j,j<Y4 us vs→(jR us vs rs1 rs2 k).getD j undef=if j<M' then rs2 j else rs1 ((Za us vs (Xd us).keys.length).getD (j-M') 0)):=by
    intro j hj
    have:=X4h (us:=us) (vs:=vs) (rs1:=rs1) (rs2:=rs2) (i:=k) (j:=j) (by rw[←Xwe us vs rs1 rs2 k,HRL.out];exact hj)
    rw[HRV.out] at this
    rw[this,HLU.out]
   have HML:Hid (∀j,j<Y4 us vs→¬j<M'→(Za us vs (Xd us).keys.length).getD (j-M') 0<k):=by
    intro j hj hn
    have:=Xbp (vs:=vs) ok1 hk1 (j:=j-M') (by rw[Y4,HRV.out] at hj;omega)
    rw[HRU.out] at this
    exact this
   have HND:Hid (∀j,j<Y4 us vs→NodesAt wr.heap.size wr ((jR us vs rs1 rs2 k).getD j undef) (J1 us vs j)):=by
    intro j hj
    rw[HSHAPE.out j hj,J1,HRV.out]
    by_cases hlt2:j<M'
    ·rw[if_pos hlt2,if_pos hlt2]
     have hf:=HF2.out.2 j (by rw[HRV.out];exact hlt2)
     exact ((HR2'.out.nest j hlt2).only HJ.out.only (HFAR2.out j hlt2)).nodes (Nat.le_trans hf.1.1 (by omega)) hf.2
    ·rw[if_neg hlt2,if_neg hlt2]
     have hl:=HML.out j hj hlt2
     have hf:=HF1.out.2 _ (by rw[HRU.out];exact hl)
     exact ((HR1.out.nest _ hl).only HJ.out.only (HFAR1.out _ hl)).nodes (Nat.le_trans hf.1.1 (by omega)) hf.2
   have HCS:=Xa (Xzs HJ.out.lrow (fun j hj=>by
    rw[HRL.out] at hj
    obtain ⟨_,a,c,e,_⟩:=HND.out j hj
    exact ⟨_,_,_,e⟩))
   rw[HRL.out] at HCS
   have HKS:=Xa (Xb7 (l:=Zg us vs) (by have:=HJ.out.krow;rw[HKA.out] at this;exact this) (by rw[HNL.out];omega) HSZ.out)
   have hN160:=Xdz ok1 ok2 hk1 hk2
   have HOKJ:=Xa (Xhq ok1 ok2 hk1)
   obtain ⟨ns,ps,hso,hjn⟩:=Xc4 ok1 ok2 hk1 hk2
   have hln:=Gr hso
   rw[HNL.out] at hln
   have HNK:Hid (∀i,i<ns.length→(Xh ns i).size≤140737488355328):=fun i hi=>by
    have e2:Xh ns i=Xh (Zg us vs) (ps.getD i 0):=by
     have hmp:=Xbh hso
     rw[K5 hi,List.getD_eq_getElem?_getD,List.getElem?_eq_getElem (show i<ps.length by omega)]
     subst hmp
     simp
    rw[e2]
    refine HSZ.out _ (Gs hso _ ?_)
    rw[List.getD_eq_getElem?_getD,List.getElem?_eq_getElem (by omega)]
    exact List.getElem_mem _
   have HJB:=Xa (Xq0 ok1 ok2 hk1 hk2 HFU.out HFV.out hso HNK.out)
   have HSO:=Xa hso
   have HPM:Hid (∀x∈ps,x<Y4 us vs):=fun x hx=>by have:=Gs hso x hx;rw[HNL.out] at this;exact this
   have HJN:=Xa hjn
   have HLN:=Xa hln
   obtain ⟨JN,hJN⟩:∃JN,Y4 us vs=JN:=⟨_,rfl⟩
   rw[hJN] at hpN hqN HNL HND HCS hN160 HOKJ HPM HJN HJB HLN
   subst hpN hqN
   clear hso hjn hln hJN
   go_wp2_with fail
   refine (Xol wr.heap.size _ _ (Zg us vs) _ wr (by have:=HKS.out;rw[HNL.out] at *;exact this) (by rw[HNL.out];exact HCS.out) (Nat.le_refl _) (by rw[HNL.out];omega)).mono ?_
   rintro e w8 ⟨hs8,hb8⟩
   rw[HSO.out] at hs8
   obtain ⟨nv,lv,rfl,hnv,hlv⟩:=hs8
   have z8:=hb8.size
   have HB8:=Xa (HBw.out.trans (hb8.mono HBw.out.size))
   have HND8:Hid (∀i,i<q→NodesAt wr.heap.size w8 ((jR us vs rs1 rs2 k).getD i undef) (J1 us vs i)):=fun i hi=>(HND.out i hi).below hb8
   have HST:=Xa (Xb7 hnv (by rw[HLN.out.1];omega) HNK.out)
   have HRW:=Xa (Xwm hlv HLN.out.2 (by omega) z8 HPM.out HND8.out)
   have HPJ:Hid (∀i,i<q→ps.getD i 0<q):=HJB.out.2.1
   have HOK2:Hid (∀i,i<q→okB ((fun j=>J1 us vs (ps.getD j 0)) i)=true):=fun i hi=>HOKJ.out _ (HPJ.out i hi)
   have HLE:=Xa (Vk HOK2.out q (Nat.le_refl _))
   obtain ⟨anv,cnv,env⟩:=Xj hnv
   obtain ⟨alv,clv,elv⟩:=Xj hlv
   rw[HLN.out.1] at env
   rw[HLN.out.2] at elv
   subst env elv
   have zw:=HB8.out.size
   clear hnv hlv hb8
   go_wp2_with fail
   refine (Xbl w8.heap.size 6 _ _ ns q (fun j=>J1 us vs (ps.getD j 0)) w8 (by have:=HST.out;rw[HLN.out.1] at *;exact this) HRW.out (Nat.le_refl _) (by omega) (by rw[HLN.out.1];omega) (by have:=HLE.out;omega) (Xdl HOK2.out)).mono ?_
   rintro e w9 ⟨r,KV,IV,rfl,hn9,hb9⟩
   rw[←HJN.out] at hn9
   have HB9:=Xa (HB8.out.trans (hb9.mono zw))
   have HN9:=Xa (hn9.low zw)
   have HND9:=Xa (hn9.nodes (Nat.le_trans HJB.out.2.2.1 (by omega)) (fun i hi=>(HJB.out.2.2.2 i hi).1))
   obtain ⟨ar,cr,er⟩:=Xj hn9.row
   obtain ⟨NS,hNS⟩:∃NS,Z9 us vs=NS:=⟨_,rfl⟩
   rw[hNS] at HM HN9 HND9 er
   obtain ⟨NN,hNN⟩:∃NN,NS.length=NN:=⟨_,rfl⟩
   rw[hNN] at er
   subst er
   clear hn9 hb9 hNN hNS HJN HJB HRW HLE
   cases ok:okB NS
   ·go_wp2_with fail
    refine (Gq w9.heap.size _ _ w9 HND9.out (Nat.le_refl _) ok).mono ?_
    rintro e w10 ⟨rfl,hb10⟩
    have HB10:=Xa (HB9.out.trans (hb10.mono HB9.out.size))
    clear hb10
    go_wp2_with fail
    go_ret2
    exact ⟨_,w.heap.size,fun _=>undef,fun _=>undef,by rw[HM.out.1,ok];rfl,Nat.le_refl _,by rw[HM.out.2,ok];exact Nest.nil _ _ _ _,HB10.out⟩
   ·go_wp2_with fail
    refine (Vs w9.heap.size _ _ w9 HND9.out (Nat.le_refl _) ok).mono ?_
    rintro e w10 ⟨rfl,hb10⟩
    have HB10:=Xa (HB9.out.trans (hb10.mono HB9.out.size))
    have HN10:=Xa (HN9.out.below hb10)
    clear hb10
    go_wp2_with fail
    go_ret2
    exact ⟨_,w.heap.size,KV,IV,by rw[HM.out.1,ok];rfl,Nat.le_refl _,by rw[HM.out.2,ok];exact HN10.out,HB10.out⟩
end Go.Proofs.YtdjddneidbddpaaGreatDoor
