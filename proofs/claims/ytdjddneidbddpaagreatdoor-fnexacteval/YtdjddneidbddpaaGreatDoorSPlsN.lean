import Derived.Test.YtdjddneidbddpaaGreatDoorSPlsL
import Derived.Test.YtdjddneidbddpaaGreatDoorJoinQ
import Derived.Test.YtdjddneidbddpaaGreatDoorSMapOf
import Derived.Test.YtdjddneidbddpaaGreatDoorCln
namespace Go.Proofs.YtdjddneidbddpaaGreatDoor
set_option linter.unusedSectionVars false
set_option maxRecDepth 100000
set_option maxHeartbeats 6400000
open Go.RowKit
set_option linter.unusedSimpArgs false
set_option linter.unusedVariables false
theorem X0k (u v:Value):∀w,(callFunc 128 #[u,v]).run Tryz.prog w= .ok (.enter 128 #[u,v]) w:=fun w=>by kernel_rfl
theorem Xsg {B:Nat} {w:World} {v:Value} {us:List VN} (h:NodesAt B w v us) (hl:0<us.length):∃b o c aK cK aI cI,v= .slice (some ⟨b,o,none⟩) us.length c/\b<B/\NodeIn B w (Xd us) (.slice aK (Xd us).keys.length cK) (.slice aI (Xd us).kids.length cI)/\w.cell? ⟨b,o+(us.length-1) *5,none⟩=some (.int .i64 (Xd us).kind)/\w.cell? ⟨b,o+(us.length-1) *5+1,none⟩=some (.int .i64 (Xd us).n)/\w.cell? ⟨b,o+(us.length-1) *5+2,none⟩=some (.string (Xd us).s)/\w.cell? ⟨b,o+(us.length-1) *5+3,none⟩=some (.slice aK (Xd us).keys.length cK)/\w.cell? ⟨b,o+(us.length-1) *5+4,none⟩=some (.slice aI (Xd us).kids.length cI):=by
 obtain ⟨_,a,c,rfl,j⟩:=h
 obtain ⟨b,o,rfl,l,f⟩:=j hl
 obtain ⟨t,y,d⟩:=f (us.length-1) (by omega)
 have g:=d.inn
 obtain ⟨_,_,aK,cK,p,_⟩:=d.inn.keys
 obtain ⟨_,_,aI,cI,q,_⟩:=d.inn.kids
 subst p q
 exact ⟨b,o,c,aK,cK,aI,cI,rfl,l,g,d.c0,d.c1,d.c2,d.c3,d.c4⟩


theorem Xr1 (g j:Nat):(⟨g,0,none⟩:Addr).add j=⟨g,j,none⟩:=by simp[Addr.add];intro h;exact h.symm
theorem Xg6 {P:Nat->Prop} {w w':World} {base e s n:Nat} {v:Value} {xs:List Value} (h:w.ownsRow base e s v n xs) (ho:Only P w w') (hP:∀x,v.ownBlock=some x->¬P x):w'.ownsRow base e s v n xs:=by
 refine ⟨h.1, ?_⟩
 rcases h.2 with hn|⟨g,cap,cur,rfl,hg,hgg,rest⟩
 ·exact .inl hn
 ·exact .inr ⟨g,cap,cur,rfl,hg,(ho.2 g (h.lt g rfl).2 (hP g rfl)).trans hgg,rest⟩
theorem Nest.only {P:Nat->Prop} {base:Nat} {w w':World} {v:Value} {vs:List VN} {KV IV:Nat->Value} (h:Nest base w v vs KV IV) (ho:Only P w w') (hP:∀x,Uu v vs.length KV IV x->¬P x):Nest base w' v vs KV IV:=
 ⟨Xg6 h.row ho fun x hx=>hP x (.inl hx),fun i hi=>Xg6 (h.rk i hi) ho fun x hx=>hP x (.inr ⟨i,hi, .inl hx⟩),fun i hi=>Xg6 (h.ri i hi) ho fun x hx=>hP x (.inr ⟨i,hi, .inr hx⟩),h.dkk,h.dii⟩
theorem Xaz {w w':World} {base e s n:Nat} {v:Value} {xs:List Value} (h:w.ownsRow base e s v n xs) (hb:Below w.heap.size w w'):w'.ownsRow base e s v n xs:=Vd h ((From.refl base w).below hb)
def Xjj (kb lb:Value) (c:Nat):Prop:=kb.ownBlock=some c\/lb.ownBlock=some c
structure Jn (base:Nat) (w3:World) (kb lb:Value) (KS:List ByteArray) (RS:List Value) (kv lv:Value) (wr:World):Prop where
 krow:wr.ownsRow base 9 1 kv KS.length (KS.map .string)
 lrow:wr.ownsRow base 25 1 lv RS.length RS
 only:Only (Xjj kb lb) w3 wr
 kat:∀x,kv.ownBlock=some x->Xjj kb lb x\/w3.heap.size<=x
 lat:∀x,lv.ownBlock=some x->Xjj kb lb x\/w3.heap.size<=x
theorem Jn.below {base:Nat} {w3 wr w':World} {kb lb kv lv:Value} {KS:List ByteArray} {RS:List Value} (h:Jn base w3 kb lb KS RS kv lv wr) (hb:Below wr.heap.size wr w'):Jn base w3 kb lb KS RS kv lv w':=
 ⟨Xaz h.krow hb,Xaz h.lrow hb,h.only.trans (Only.of_below hb),h.kat,h.lat⟩
theorem Xh2 {P:Nat->Prop} {w3 wr w5:World} {o:Obj} {row:Option Nat} (h:Only P w3 wr) (hg:(wr.alloc o).grownBy w5 row) (hr:∀x,row=some x->P x\/w3.heap.size<=x):Only P w3 w5:=by
 have z:=hg.size
 have b:=h.1
 simp at z
 refine ⟨by omega,fun c hc hp=> ?_⟩
 rw[hg.block c (by simp;omega) (fun e=>by rcases hr c e.symm with q|q;exact hp q;omega),Below.heap_alloc _ _ _ (by omega)]
 exact h.2 c hc hp
theorem Xmy {P:Nat->Prop} {w3 wr:World} {v v':Value} (h:w3.heap.size<=wr.heap.size) (hv:∀x,v.ownBlock=some x->P x\/w3.heap.size<=x) (hat:v'.ownBlock=v.ownBlock\/v'.ownBlock=some (wr.heap.size+1)):∀x,v'.ownBlock=some x->P x\/w3.heap.size<=x:=by
 intro x b
 rcases hat with e|e
 ·exact hv x (e▸b)
 ·rw[e] at b
  injection b with b
  exact .inr (by omega)
theorem Jn.pushK {base:Nat} {w3 wr w5:World} {o:Obj} {kb lb kv lv kv':Value} {KS:List ByteArray} {RS:List Value} {s:ByteArray} (h:Jn base w3 kb lb KS RS kv lv wr)
  (hown:w5.ownsRow base 9 1 kv' (KS.length+1) (KS.map .string++ [.string s])) (hg:(wr.alloc o).grownBy w5 kv.ownBlock) (hat:kv'.ownBlock=kv.ownBlock\/kv'.ownBlock=some (wr.heap.size+1)):Jn base w3 kb lb (KS++ [s]) RS kv' lv w5:=
 ⟨by simpa using hown,(h.lrow.alloc o).kept hg (Yj h.lrow h.krow (by decide)),Xh2 h.only hg h.kat,Xmy h.only.1 h.kat hat,h.lat⟩
theorem Jn.pushL {base:Nat} {w3 wr w5:World} {o:Obj} {kb lb kv lv lv':Value} {KS:List ByteArray} {RS:List Value} {r:Value} (h:Jn base w3 kb lb KS RS kv lv wr)
  (hown:w5.ownsRow base 25 1 lv' (RS.length+1) (RS++ [r])) (hg:(wr.alloc o).grownBy w5 lv.ownBlock) (hat:lv'.ownBlock=lv.ownBlock\/lv'.ownBlock=some (wr.heap.size+1)):Jn base w3 kb lb KS (RS++ [r]) kv lv' w5:=
 ⟨(h.krow.alloc o).kept hg (Yj h.krow h.lrow (by decide)),by simpa using hown,Xh2 h.only hg h.lat,h.kat,Xmy h.only.1 h.lat hat⟩
def jK (us vs:List VN) (i:Nat):List ByteArray:=(Xd vs).keys++(Y5 us vs i).map (Xf (Xd us).keys)
def jR (us vs:List VN) (rs1 rs2:Nat->Value) (i:Nat):List Value:=(List.range (Xe vs).length).map rs2++(Y5 us vs i).map rs1
theorem Xen (us vs:List VN):Y5 us vs 0= []:=rfl
theorem Xg7 {us vs:List VN} {i:Nat} (h:Yz (Xd vs).keys (Xf (Xd us).keys i)=false):Y5 us vs (i+1)=Y5 us vs i++ [i]:=by
 unfold Y5;rw[Yt,h];rfl
theorem Xjk {us vs:List VN} {i:Nat} (h:Yz (Xd vs).keys (Xf (Xd us).keys i)=true):Y5 us vs (i+1)=Y5 us vs i:=by
 unfold Y5;rw[Yt,h];rfl
theorem X2l (us vs:List VN):jK us vs 0=(Xd vs).keys:=by simp[jK,Xen]
theorem X2m (us vs:List VN) (rs1 rs2:Nat->Value):jR us vs rs1 rs2 0=(List.range (Xe vs).length).map rs2:=by simp[jR,Xen]
theorem X33 {us vs:List VN} {i:Nat} (h:Yz (Xd vs).keys (Xf (Xd us).keys i)=false):jK us vs (i+1)=jK us vs i++ [Xf (Xd us).keys i]:=by simp[jK,Xg7 h]
theorem X4w {us vs:List VN} {i:Nat} (h:Yz (Xd vs).keys (Xf (Xd us).keys i)=true):jK us vs (i+1)=jK us vs i:=by simp[jK,Xjk h]
theorem X34 {us vs:List VN} {rs1 rs2:Nat->Value} {i:Nat} (h:Yz (Xd vs).keys (Xf (Xd us).keys i)=false):jR us vs rs1 rs2 (i+1)=jR us vs rs1 rs2 i++ [rs1 i]:=by simp[jR,Xg7 h]
theorem X4x {us vs:List VN} {rs1 rs2:Nat->Value} {i:Nat} (h:Yz (Xd vs).keys (Xf (Xd us).keys i)=true):jR us vs rs1 rs2 (i+1)=jR us vs rs1 rs2 i:=by simp[jR,Xjk h]
theorem X35 (us vs:List VN):jK us vs (Xd us).keys.length=Zb us vs:=rfl
theorem Xzi (us vs:List VN) (i:Nat):(Y5 us vs i).length<=i:=by
 induction i with
 |zero=>simp[Xen]
 |succ i ih=>
  cases h:Yz (Xd vs).keys (Xf (Xd us).keys i)
  ·rw[Xg7 h];simp;omega
  ·rw[Xjk h];omega
theorem Xvw (us vs:List VN) (rs1 rs2:Nat->Value) (i:Nat):(jR us vs rs1 rs2 i).length=(Xe vs).length+(Y5 us vs i).length:=by simp[jR]
theorem X36 {us vs:List VN} {rs1 rs2:Nat->Value} {i j:Nat} (hj:j<(Xe vs).length+(Y5 us vs i).length):(jR us vs rs1 rs2 i).getD j undef=if j<(Xe vs).length then rs2 j else rs1 ((Y5 us vs i).getD (j-(Xe vs).length) 0):=by
 unfold jR
 rw[List.getD_eq_getElem?_getD]
 split
 ·rename_i h
  rw[List.getElem?_append_left (by simpa using h)]
  simp[h]
 ·rename_i h
  rw[List.getElem?_append_right (by simp;omega)]
  simp only[List.length_map,List.length_range,List.getElem?_map]
  rw[List.getD_eq_getElem?_getD,List.getElem?_eq_getElem (by omega)]
  rfl
theorem Xzj {w:World} {base:Nat} {v:Value} {RS:List Value} (h:w.ownsRow base 25 1 v RS.length RS) (hs:∀j,j<RS.length->∃a n c,RS.getD j undef= .slice a n c):Xss w.heap.size w v RS.length (fun j=>RS.getD j undef):=by
 obtain ⟨a,c,rfl⟩:=Xg h
 refine ⟨a,c,rfl,hs,fun hp=> ?_⟩
 obtain ⟨g,d,e,f,b⟩:=h.form hp
 injection e with e1 e2 e3
 refine ⟨g,0,e1,b,fun i hi=> ?_⟩
 have:=h.cells (g:=g) (by rw[e1];rfl) i (RS.getD i undef) (by rw[List.getD_eq_getElem?_getD,List.getElem?_eq_getElem hi];rfl)
 rw[Xr1] at this
 simpa using this


theorem Xtw (B:Nat) (v1 v2:Value) (us vs:List VN) (w:World) (hn1:NodesAt B w v1 us) (hn2:NodesAt B w v2 vs) (hB:B<=w.heap.size) (ok1:okB us=true) (ok2:okB vs=true) (hk1:(Xd us).kind=6) (hk2:(Xd vs).kind=6):
  Calls Tryz.prog 131 #[v1,v2] w fun e w'=>∃r base KV IV,e= .returned (.tuple #[r, .int .i64 (Qg us vs)])/\w.heap.size<=base/\Nest base w' r (Zt us vs) KV IV/\Below w.heap.size w w':=by
 obtain ⟨f1,f2⟩:=(Xm ok1).1
 obtain ⟨f3,f4⟩:=(Xm ok2).1
 obtain ⟨a1,a2⟩:=Y0 ok1 hk1
 obtain ⟨bg,f5⟩:=Y0 ok2 hk2
 have k1:(Xd us).kids.length=(Xe us).length:=rfl
 have k2:(Xd vs).kids.length=(Xe vs).length:=rfl
 obtain ⟨b1,o1,c1,y,Z,bh,bi,rfl,jq,z,d0,d1,d2,d3,d4⟩:=Xsg hn1 (by omega)
 obtain ⟨b2,o2,c2,f,F,P,R,rfl,jr,C,g0,g1,g2,g3,g4⟩:=Xsg hn2 (by omega)
 have HM:=Xa (G9 ok1 ok2 (by omega) (by omega) (by omega))
 rw[Xp7 hk1] at HM
 have bp:=Xa (fun W (hb:Below w.heap.size w W)=>Kn B _ us W (hn1.below (hb.mono hB)) (Nat.le_trans hB hb.size) ok1)
 have bq:=Xa (fun W (hb:Below w.heap.size w W)=>Kn B _ vs W (hn2.below (hb.mono hB)) (Nat.le_trans hB hb.size) ok2)
 rw[a1] at z d3
 rw[k1] at z d4
 rw[bg] at C g3
 rw[k2] at C g4
 obtain ⟨M,hM⟩:∃M,(Xe us).length=M:=⟨_,rfl⟩
 obtain ⟨b,b7⟩:∃b,(Xe vs).length=b:=⟨_,rfl⟩
 have jo:M<=80:=by rw[<-hM];exact (Zv ok1).2
 have f6:b<=80:=by rw[<-b7];exact (Zv ok2).2
 rw[hM] at z d3 d4 bp a1
 rw[b7] at C g3 g4 bq bg
 have js:=Xa z
 have jt:=Xa C
 obtain ⟨N1,dc⟩:∃N1,us.length=N1:=⟨_,rfl⟩
 obtain ⟨N2,dd⟩:∃N2,vs.length=N2:=⟨_,rfl⟩
 rw[dc] at f1 f2 d0 d1 d2 d3 d4 bp|-
 rw[dd] at f3 f4 g0 g1 g2 g3 g4 bq|-
 have z1:((N1:Int)-1).toNat=N1-1:=by omega
 have z2:((N2:Int)-1).toNat=N2-1:=by omega
 obtain ⟨kx,f7⟩:∃k,(Xd us).kind=k:=⟨_,rfl⟩
 obtain ⟨ky,de⟩:∃k,(Xd vs).kind=k:=⟨_,rfl⟩
 obtain ⟨nx,f8⟩:∃k,(Xd us).n=k:=⟨_,rfl⟩
 obtain ⟨ny,df⟩:∃k,(Xd vs).n=k:=⟨_,rfl⟩
 obtain ⟨sx,f9⟩:∃k,(Xd us).s=k:=⟨_,rfl⟩
 obtain ⟨sy,dg⟩:∃k,(Xd vs).s=k:=⟨_,rfl⟩
 rw[f7] at d0
 rw[de] at g0
 rw[f8] at d1
 rw[df] at g1
 rw[f9] at d2
 rw[dg] at g2
 have q1:(kx==1)=false:=by simp;omega
 have q2:(ky==1)=false:=by simp;omega
 have q3:(kx !=ky)=false:=by simp;omega
 have q4:(kx==3)=false:=by simp;omega
 have q5:(kx==4)=false:=by simp;omega
 have q6:(kx==5)=false:=by simp;omega
 have q7:(kx==6)=true:=by simp;omega
 obtain ⟨S,o⟩:∃S,(w.alloc (.cells #[.int .i64 kx, .int .i64 nx, .string sx, .slice y M Z, .slice bh M bi] 75)).alloc (.cells #[.int .i64 ky, .int .i64 ny, .string sy, .slice f b F, .slice P b R] 75)=S:=⟨_,rfl⟩
 have ju:=Xa o
 have dh:S.heap.size=w.heap.size+1+1:=by rw[<-o];simp
 have di:Hid (Below w.heap.size w S):=by rw[Hid,<-o];exact ((Below.refl _ _).alloc (Nat.le_refl _) _).alloc (by simp) _
 have bj:Below w.heap.size w (w.alloc (.cells #[.int .i64 kx, .int .i64 nx, .string sx, .slice y M Z, .slice bh M bi] 75)):=(Below.refl _ _).alloc (Nat.le_refl _) _
 have e0:=(Xc bj (show b2<w.heap.size by omega)).trans g0
 have e1:=(Xc bj (show b2<w.heap.size by omega)).trans g1
 have e2:=(Xc bj (show b2<w.heap.size by omega)).trans g2
 have e3:=(Xc bj (show b2<w.heap.size by omega)).trans g3
 have e4:=(Xc bj (show b2<w.heap.size by omega)).trans g4
 obtain ⟨j0,dj,dk,dl,ce⟩:=info_parts Xn0
 obtain ⟨i0,ga,gb,gc,gd⟩:=info_parts Xho
 have dm:Hid ((((w.alloc (.cells #[.int .i64 kx, .int .i64 nx, .string sx, .slice y M Z, .slice bh M bi] 75)).alloc (.cells #[.int .i64 ky, .int .i64 ny, .string sy, .slice f b F, .slice P b R] 75)).alloc (.cells #[] 9)).ownsRow (w.heap.size+1+1) 9 1 (.slice (some ⟨w.heap.size+1+1,0,none⟩) 0 0) 0 []):=by
  have:=World.ownsRow_lit (base:=S.heap.size) (e:=9) (size:=1) S #[] 0 (Nat.le_refl _) (by simp[maxLen]) rfl
  rw[dh,<-o] at this
  simpa [Hid] using this
 have gf:Hid (Below w.heap.size w (((w.alloc (.cells #[.int .i64 kx, .int .i64 nx, .string sx, .slice y M Z, .slice bh M bi] 75)).alloc (.cells #[.int .i64 ky, .int .i64 ny, .string sy, .slice f b F, .slice P b R] 75)).alloc (.cells #[] 9))):=(((Below.refl _ _).alloc (Nat.le_refl _) _).alloc (by simp) _).alloc (by simp;omega) _
 have gg:Hid (Below (w.heap.size+1+1) S (((w.alloc (.cells #[.int .i64 kx, .int .i64 nx, .string sx, .slice y M Z, .slice bh M bi] 75)).alloc (.cells #[.int .i64 ky, .int .i64 ny, .string sy, .slice f b F, .slice P b R] 75)).alloc (.cells #[] 9))):=by
  rw[Hid,o];exact (Below.refl _ _).alloc (by omega) _
 have dp:Hid (0<b->∃ad',f=some ad'/\∀j u,((Xd vs).keys.map Value.string)[j]? =some u->(((w.alloc (.cells #[.int .i64 kx, .int .i64 nx, .string sx, .slice y M Z, .slice bh M bi] 75)).alloc (.cells #[.int .i64 ky, .int .i64 ny, .string sy, .slice f b F, .slice P b R] 75)).alloc (.cells #[] 9)).cell? (ad'.add j)=some u):=by
  intro hp
  obtain ⟨_,_,a,ci,ev,T⟩:=C.keys
  rw[bg] at T ev
  obtain ⟨X,G,e,cj,cm⟩:=T hp
  have ea:f=a:=by injection ev
  refine ⟨⟨X,G,none⟩,by rw[ea,e],fun j u D=> ?_⟩
  have gh:j<b:=by have:=(List.getElem?_eq_some_iff.1 D).1;rw[List.length_map,bg] at this;exact this
  rw[show (⟨X,G,none⟩:Addr).add j=⟨X,G+j,none⟩ by simp[Addr.add],Xc gf.out (by omega),cm j gh]
  rw[List.getElem?_map] at D
  simp only[Xf,List.getD]
  cases hq:(Xd vs).keys[j]? with
  |none=>rw[hq] at D;cases D
  |some t=>rw[hq] at D;simpa using D
 have gi:=Xa dh
 have gj:Hid (S.cell? ⟨w.heap.size,3,none⟩=some (.slice y M Z)):=by rw[Hid,<-o];simp
 have gk:Hid (S.cell? ⟨w.heap.size+1,0,none⟩=some (.int .i64 ky)):=by rw[Hid,<-o];simp
 have gl:Hid (S.cell? ⟨w.heap.size+1,1,none⟩=some (.int .i64 ny)):=by rw[Hid,<-o];simp
 have gm:Hid (S.cell? ⟨w.heap.size+1,2,none⟩=some (.string sy)):=by rw[Hid,<-o];simp
 have gn:Hid (S.cell? ⟨w.heap.size+1,3,none⟩=some (.slice f b F)):=by rw[Hid,<-o];simp
 have go:Hid (S.cell? ⟨w.heap.size+1,4,none⟩=some (.slice P b R)):=by rw[Hid,<-o];simp
 have b8:Hid ((Xd vs).keys.length=b):=bg
 have cn:Hid ((Xd us).keys.length=M):=a1
 have ba:Hid ((Xe vs).length=b):=b7
 have dq:Hid ((Xe us).length=M):=hM
 have dr:Hid (∀(key:ByteArray) (W:World),Below w.heap.size w W->Calls Tryz.prog 128 #[.agg #[.int .i64 ky, .int .i64 ny, .string sy, .slice f b F, .slice P b R], .agg #[.bool true, .string key, .int .i64 0]] W fun e w'=>e= .returned (.int .i64 (Jj (Qy (Xd vs) ⟨true,key,0⟩)))/\Below W.heap.size W w'):=by
  intro key W hb
  have:=Ub B (Xd vs) (.slice f b F) (.slice P b R) ⟨true,key,0⟩ W (C.below (hb.mono hB)) (Nat.le_trans hB hb.size) (fun _=>⟨Q7 f5,by rw[bg];omega⟩) (.inl rfl) (by rw[k2,b7];omega) ⟨by simp,by simp⟩
  rw[de,df,dg] at this
  exact this
 have gp:Hid (∀key,decide (Jj (Qy (Xd vs) ⟨true,key,0⟩)<0)= !Yz (Xd vs).keys key):=fun key=>X2j hk2
 have gq:Hid (∀W,Below w.heap.size w W->0<M->∃X G,y=some ⟨X,G,none⟩/\∀i,i<M->W.cell? ⟨X,G+i,none⟩=some (.string (Xf (Xd us).keys i))):=by
  intro W hb hp
  obtain ⟨_,_,a,ci,ev,T⟩:=z.keys
  rw[a1] at T ev
  obtain ⟨X,G,e,cj,cm⟩:=T hp
  have ea:y=a:=by injection ev
  exact ⟨X,G,by rw[ea,e],fun i hi=>(Xc hb (by omega)).trans (cm i hi)⟩
 have gr:Hid (∀X G,y=some ⟨X,G,none⟩->0<M->X<B):=by
  intro X G e hp
  obtain ⟨_,_,a,ci,ev,T⟩:=z.keys
  rw[a1] at T ev
  obtain ⟨jv,jw,e',cj,_⟩:=T hp
  have ea:y=a:=by injection ev
  rw[ea,e'] at e
  injection e with e
  injection e with e1
  omega
 have gs:=Xa hn1.fits
 have gu:=Xa hn2.fits
 have ds:Hid (∀i,i<(Zb us vs).length->(Xf (Zb us vs) i).size<=140737488355328):=
  Xha (hn1.fits (us.length-1) (by omega)).keysS (hn2.fits (vs.length-1) (by omega)).keysS
 have dt:=Xa (Ks hn1.fits)
 have du:=Xa (Ks hn2.fits)
 have dv:Zl us=(Xe us).length:=by unfold Zl;rw[if_pos ok1]
 have dw:Zl vs=(Xe vs).length:=by unfold Zl;rw[if_pos ok2]
 rw[dv] at dt
 rw[dw] at du
 clear dv dw
 clear bj g0 g1 g2 g3 g4 dc dd o z C
 go_enter Tryz.func131,Tryz.ntmps131
 go_wp2_with (at_builtin;refine Yd rfl _ _ 72 rfl (w.heap.size+1+1) 9 j0 (.string ByteArray.empty) 1 16 Tryz.underlying72 dj dk dl ce rfl (by decide) _ 0 [] rfl dm.out f b F ((Xd vs).keys.map .string) rfl (by rw[List.length_map,b8.out];omega) dp.out ?c2 ?c3 ?c4 ?c5 ?_)
 case c2=>intro u hu;obtain ⟨q,_,rfl⟩:=List.mem_map.1 hu;rfl
 case c3=>unfold maxLen;omega
 case c4=>omega
 case c5=>simp
 intro jx w1 be dx dy
 (try simp only[Nat.zero_add,List.nil_append] at be)
 have co:Hid (Below (w.heap.size+1+1) S w1):=gg.out.grown dx (by simp) (fun x Y=>by simp[Value.ownBlock] at Y;omega)
 have cp:Hid (Below w.heap.size w w1):=di.out.trans (co.out.mono (by omega))
 have cq:=Xa be
 obtain ⟨bl,bm,gv⟩:=Xg be
 subst gv
 clear be dx dy
 go_wp2_with fail
 refine (bq.out _ cp.out).mono ?_
 rintro e w2 ⟨r2,rs2,K2,I2,jy,rfl,cs,br⟩
 have bs:=Xa br
 have ct:=Xa (cp.out.trans (br.mono cp.out.size))
 have bn:=Xa cs
 obtain ⟨aG,cG,eG⟩:=Xg cs.row
 subst eG
 clear cs br
 go_wp2_with fail
 refine (bp.out _ ct.out).mono ?_
 rintro e w3 ⟨r1,rs1,K1,I1,jz,rfl,cu,bt⟩
 have bf:=Xa bt
 have j1:=Xa (ct.out.trans (bt.mono ct.out.size))
 have bo:=Xa cu
 obtain ⟨aM,cM,eM⟩:=Xg cu.row
 subst eM
 clear cu bt
 have y1:=co.out.size
 have y2:=bs.out.size
 have y3:=bf.out.size
 have gw:=Xa ((co.out.trans (bs.out.mono (by omega))).trans (bf.out.mono (by omega)))
 have cf:=Xa (bn.out.below bf.out)
 have gx:=Xa (Xaz (Xaz cq.out bs.out) bf.out)
 have gy:Hid (Jn (w.heap.size+1+1) w3 (.slice bl b bm) (.slice aG b cG) (jK us vs 0) (jR us vs rs1 rs2 0) (.slice bl b bm) (.slice aG b cG) w3):=by
  refine ⟨?_, ?_,Only.refl _ _,fun x Y=> .inl (.inl Y),fun x Y=> .inl (.inr Y)⟩
  ·rw[X2l,b8.out];exact gx.out
  ·rw[X2m,ba.out,List.length_map,List.length_range];exact Qj cf.out.row (by omega)
 have dz:Hid (∀c,Xjj (.slice bl b bm) (.slice aG b cG) c->w.heap.size+1+1<=c/\c<w2.heap.size):=by
  rintro c (hc|hc)
  ·have:=(cq.out.lt c hc);omega
  ·have:=(bn.out.row.lt c hc);omega
 have cv:Hid (∀i,i<M->∀x,Uu (rs1 i) (PL us i).length (K1 i) (I1 i) x->¬Xjj (.slice bl b bm) (.slice aG b cG) x):=by
  intro i hi x Y ht
  have h1:=((bo.out.nest i hi).inn Y).1
  have h2:=bo.out.low i (by omega)
  have h3:=(dz.out x ht).2
  omega
 have cw:Hid (∀i,i<b->∀x,Uu (rs2 i) (PL vs i).length (K2 i) (I2 i) x->¬Xjj (.slice bl b bm) (.slice aG b cG) x):=by
  rintro i hi x Y (ht|ht)
  ·have h1:=((bn.out.nest i hi).inn Y).1
   have h2:=bn.out.low i (by omega)
   have h3:=(cq.out.lt x ht).2
   omega
  ·exact (bn.out.nest i hi).far bn.out.row Y ht
 have gz:Hid (0<M->∃ad,aM=some ⟨ad,0,none⟩/\w2.heap.size<=ad/\ad<w3.heap.size/\∀j,j<M->w3.cell? ⟨ad,j,none⟩=some (rs1 j)):=by
  intro hp
  obtain ⟨g,ci,e,hg,bu⟩:=bo.out.row.form hp
  injection e with e1 e2 e3
  refine ⟨g,e1,hg,bu,fun j D=> ?_⟩
  have:=bo.out.row.cells (g:=g) (by rw[e1];rfl) j (rs1 j) (by simp[D])
  rw[Xr1] at this
  simpa using this
 go_wp2_with fail
 go_loopw [8,9,11] (fun kv lv i wr=>∃k:Nat,k<=M/\i= .int .i64 k/\Jn (w.heap.size+1+1) w3 (.slice bl b bm) (.slice aG b cG) (jK us vs k) (jR us vs rs1 rs2 k) kv lv wr/\Below (w.heap.size+1+1) S wr) (fun _ _ i _=>M-(intOf i).toNat)
 case atStart=>exact ⟨0,Nat.zero_le _,rfl,gy.out,gw.out⟩
 case round =>
  obtain ⟨k,hk,rfl,D,hz⟩:=hrel
  have HJ:=Xa D
  have HZ:=Xa hz
  obtain ⟨ak,ck,ek⟩:=Xg D.krow
  obtain ⟨al,cl,el⟩:=Xg D.lrow
  obtain ⟨p,hp⟩:∃p,(jK us vs k).length=p:=⟨_,rfl⟩
  obtain ⟨q,hq⟩:∃q,(jR us vs rs1 rs2 k).length=q:=⟨_,rfl⟩
  rw[hp] at ek
  rw[hq] at el
  subst ek el
  have HP:=Xa hp
  have HQ:=Xa hq
  have g5:=Xzi us vs k
  have j2:p<=160:=by rw[<-hp,jK];rw[List.length_append,List.length_map,b8.out];omega
  have j3:q<=160:=by rw[<-hq,jR];rw[List.length_append,List.length_map,List.length_map,List.length_range,ba.out];omega
  have x3:=(Xc HZ.out (show w.heap.size<w.heap.size+1+1 by omega)).trans gj.out
  have b9:=Xa (di.out.trans (hz.mono (by omega)))
  have zs:=hz.size
  clear D hz hp hq g5
  by_cases bu:k<M
  ·obtain ⟨X,G,rfl,d5⟩:=gq.out wr b9.out (by omega)
   obtain ⟨key,bv⟩:∃key,Xf (Xd us).keys k=key:=⟨_,rfl⟩
   have bw:=d5 k bu
   rw[bv] at bw
   have bx:=Xa bv
   have cj:X<w.heap.size:=by have:=gr.out X G rfl (by omega);omega
   clear d5 bv
   have g6:=(Xc HZ.out (show w.heap.size+1<w.heap.size+1+1 by omega)).trans gk.out
   have g7:=(Xc HZ.out (show w.heap.size+1<w.heap.size+1+1 by omega)).trans gl.out
   have g8:=(Xc HZ.out (show w.heap.size+1<w.heap.size+1+1 by omega)).trans gm.out
   have g9:=(Xc HZ.out (show w.heap.size+1<w.heap.size+1+1 by omega)).trans gn.out
   have ja:=(Xc HZ.out (show w.heap.size+1<w.heap.size+1+1 by omega)).trans go.out
   have CK:=dr.out key wr.drew (b9.out.drew)
   obtain ⟨kr,d6⟩:∃kr,Jj (Qy (Xd vs) ⟨true,key,0⟩)=kr:=⟨_,rfl⟩
   have bb:=gp.out key
   rw[d6] at CK bb
   have jb:=Xa CK
   clear d6 CK
   have jp:(k:Int)<(M:Int):=by omega
   have j4:(0:Int)<=(k:Int):=by omega
   go_wp2_with fail
   go_region_law (refine Kf (by rfl) 128 _ _ _ _ (by rfl) (.agg #[.int .i64 ky, .int .i64 ny, .string sy, .slice f b F, .slice P b R]) (.agg #[.bool true, .string key, .int .i64 0]) (by rfl) (by rfl) (X0k _ _) jb.out ?_;rintro e w4 ⟨rfl,d7⟩;refine ⟨_,rfl, ?_⟩)
   all_goals (
    have bz:=Xa ((Below.refl wr.heap.size wr).drew.trans d7)
    have cx:=Xa (HJ.out.below bz.out)
    have d8:=Xa (HZ.out.trans (bz.out.mono (Nat.le_trans (Nat.le_of_eq gi.out.symm) zs)))
    have z4:=bz.out.size
    have x4:=(Xc bz.out (show w.heap.size<wr.heap.size by omega)).trans x3
    have c4:=(Xc bz.out (show X<wr.heap.size by omega)).trans bw
    have d9:Hid (w4.ownsRow (w.heap.size+1+1) 9 1 (.slice ak p ck) p ((jK us vs k).map .string)):=by
     have:=cx.out.krow
     rw[HP.out] at this
     exact this
    clear d7 x3 bw g6 g7 g8 g9 ja
    cases hh:Yz (Xd vs).keys key
    ·have fa:kr<0:=by rw[hh] at bb;simpa using bb
     have fb:=Xa (show Yz (Xd vs).keys (Xf (Xd us).keys k)=false by rw[bx.out];exact hh)
     clear hh bb
     go_wp2_with (at_builtin;refine wpList_append_own_at _ rfl _ _ 72 rfl (w.heap.size+1+1) 9 j0 (.string ByteArray.empty) 1 16 Tryz.underlying72 dj dk dl ce rfl (by decide) _ _ _ rfl (d9.out.alloc _) ⟨w4.heap.size,0,none⟩ 1 1 [.string key] rfl rfl ?c1 ?c2 ?c3 ?c4 ?c5 ?_)
     case c1=>exact cell_one_new _ _ _
     case c2=>intro u hu;simp at hu;subst hu;rfl
     case c3=>unfold maxLen;omega
     case c4=>omega
     case c5=>simp;omega
     intro j5 w5 J d _ b0
     have cy:=Xa (cx.out.pushK (s:=key) (by rw[HP.out];exact J) d b0)
     have fc:Hid (Below (w.heap.size+1+1) S w5):=(d8.out.alloc (by omega) _).grown d (by simp;omega) (fun x Y=>(d9.out.lt x Y).1)
     obtain ⟨j6,j7,jc⟩:=Xg J
     subst jc
     obtain ⟨ad,fd,j8,jd,fe⟩:=gz.out (by omega)
     subst fd
     obtain ⟨ar,cr,er⟩:=Xg (bo.out.nest k bu).row
     obtain ⟨Lk,ff⟩:∃Lk,(PL us k).length=Lk:=⟨_,rfl⟩
     rw[ff] at er
     have m5:=(cy.out.only.cell jd (fun ht=>by have:=(dz.out ad ht).2;omega)).trans (fe k bu)
     rw[er] at m5
     have fg:Hid (w5.ownsRow (w.heap.size+1+1) 25 1 (.slice al q cl) q (jR us vs rs1 rs2 k)):=by
      have:=cy.out.lrow
      rw[HQ.out] at this
      exact this
     have je:=Xa er
     have z5:=fc.out.size
     clear J d b0 fe er ff
     go_wp2_with (at_builtin;refine wpList_append_own_at _ rfl _ _ 28 rfl (w.heap.size+1+1) 25 i0 (.slice none 0 0) 1 24 Tryz.underlying28 ga gb gc gd rfl (by decide) _ _ _ rfl (fg.out.alloc _) ⟨w5.heap.size,0,none⟩ 1 1 [.slice ar Lk cr] rfl rfl ?c1 ?c2 ?c3 ?c4 ?c5 ?_)
     case c1=>exact cell_one_new _ _ _
     case c2=>intro u hu;simp at hu;subst hu;rfl
     case c3=>unfold maxLen;omega
     case c4=>omega
     case c5=>simp;omega
     intro j9 w7 J d _ b0
     have jf:=Xa (cy.out.pushL (r:= .slice ar Lk cr) (by rw[HQ.out];exact J) d b0)
     have jg:Hid (Below (w.heap.size+1+1) S w7):=(fc.out.alloc (by omega) _).grown d (by simp;omega) (fun x Y=>(fg.out.lt x Y).1)
     clear J d b0
     go_wp2_with fail
     refine ⟨⟨k+1,by omega,by go_num, ?_,jg.out⟩,by simp[intOf];omega⟩
     rw[X33 fb.out,X34 fb.out,bx.out,je.out]
     exact jf.out
    ·have fa:¬kr<0:=by rw[hh] at bb;simpa using bb
     have fh:=Xa (show Yz (Xd vs).keys (Xf (Xd us).keys k)=true by rw[bx.out];exact hh)
     clear hh bb
     go_wp2_with fail
     refine ⟨⟨k+1,by omega,by go_num, ?_,d8.out⟩,by simp[intOf];omega⟩
     rw[X4w fh.out,X4x fh.out]
     exact cx.out)
  ·obtain rfl:k=M:=by omega
   have fi:Hid (jK us vs k=Zb us vs):=by rw[Hid,<-cn.out];exact X35 us vs
   have V:Hid ((Zb us vs).length=Yx us vs):=by
    rw[Hid,Zb,Yx,List.length_append,List.length_map,b8.out,ba.out]
   have ca:Hid ((jR us vs rs1 rs2 k).length=Yx us vs):=by
    rw[Hid,Xvw,Yx,<-cn.out]
   have fj:p=Yx us vs:=by rw[<-HP.out,fi.out,V.out]
   have fk:q=Yx us vs:=by rw[<-HQ.out,ca.out]
   have cb:Hid (∀j,j<Yx us vs->(jR us vs rs1 rs2 k).getD j undef=if j<b then rs2 j else rs1 ((Y5 us vs (Xd us).keys.length).getD (j-b) 0)):=by
    intro j D
    have:=X36 (us:=us) (vs:=vs) (rs1:=rs1) (rs2:=rs2) (i:=k) (j:=j) (by rw[<-Xvw us vs rs1 rs2 k,ca.out];exact D)
    rw[ba.out] at this
    rw[this,cn.out]
   have jh:Hid (∀j,j<Yx us vs->¬j<b->(Y5 us vs (Xd us).keys.length).getD (j-b) 0<k):=by
    intro j D hn
    have:=Xa9 (vs:=vs) ok1 hk1 (j:=j-b) (by rw[Yx,ba.out] at D;omega)
    rw[dq.out] at this
    exact this
   have cz:Hid (∀j,j<Yx us vs->NodesAt wr.heap.size wr ((jR us vs rs1 rs2 k).getD j undef) (Js us vs j)):=by
    intro j D
    rw[cb.out j D,Js,ba.out]
    by_cases hlt2:j<b
    ·rw[if_pos hlt2,if_pos hlt2]
     have hf:=du.out.2 j (by rw[ba.out];exact hlt2)
     exact ((cf.out.nest j hlt2).only HJ.out.only (cw.out j hlt2)).nodes (Nat.le_trans hf.1.1 (by omega)) hf.2
    ·rw[if_neg hlt2,if_neg hlt2]
     have hl:=jh.out j D hlt2
     have hf:=dt.out.2 _ (by rw[dq.out];exact hl)
     exact ((bo.out.nest _ hl).only HJ.out.only (cv.out _ hl)).nodes (Nat.le_trans hf.1.1 (by omega)) hf.2
   have c6:=Xa (Xzj HJ.out.lrow (fun j D=>by
    rw[ca.out] at D
    obtain ⟨_,a,c,e,_⟩:=cz.out j D
    exact ⟨_,_,_,e⟩))
   rw[ca.out] at c6
   have ji:=Xa (Xbq (l:=Zb us vs) (by have:=HJ.out.krow;rw[fi.out] at this;exact this) (by rw[V.out];omega) ds.out)
   have c7:=Xdg ok1 ok2 hk1 hk2
   have cg:=Xa (Xg9 ok1 ok2 hk1)
   obtain ⟨ns,ps,bc,fl⟩:=Xcl ok1 ok2 hk1 hk2
   have c8:=Gl bc
   rw[V.out] at c8
   have fm:Hid (∀i,i<ns.length->(Xf ns i).size<=140737488355328):=fun i hi=>by
    have e2:Xf ns i=Xf (Zb us vs) (ps.getD i 0):=by
     have jj:=Xa1 bc
     rw[Kv hi,List.getD_eq_getElem?_getD,List.getElem?_eq_getElem (show i<ps.length by omega)]
     subst jj
     simp
    rw[e2]
    refine ds.out _ (Gm bc _ ?_)
    rw[List.getD_eq_getElem?_getD,List.getElem?_eq_getElem (by omega)]
    exact List.getElem_mem _
   have b3:=Xa (Xqi ok1 ok2 hk1 hk2 gs.out gu.out bc fm.out)
   have jk:=Xa bc
   have fn:Hid (∀x∈ps,x<Yx us vs):=fun x Y=>by have:=Gm bc x Y;rw[V.out] at this;exact this
   have c9:=Xa fl
   have bd:=Xa c8
   obtain ⟨JN,fo⟩:∃JN,Yx us vs=JN:=⟨_,rfl⟩
   rw[fo] at fj fk V cz c6 c7 cg fn c9 b3 bd
   subst fj fk
   clear bc fl c8 fo
   go_wp2_with fail
   refine (Xn4 wr.heap.size _ _ (Zb us vs) _ wr (by have:=ji.out;rw[V.out] at *;exact this) (by rw[V.out];exact c6.out) (Nat.le_refl _) (by rw[V.out];omega)).mono ?_
   rintro e w8 ⟨fp,cc⟩
   rw[jk.out] at fp
   obtain ⟨nv,lv,rfl,da,db⟩:=fp
   have z8:=cc.size
   have fq:=Xa (b9.out.trans (cc.mono b9.out.size))
   have fr:Hid (∀i,i<q->NodesAt wr.heap.size w8 ((jR us vs rs1 rs2 k).getD i undef) (Js us vs i)):=fun i hi=>(cz.out i hi).below cc
   have jl:=Xa (Xbq da (by rw[bd.out.1];omega) fm.out)
   have fs:=Xa (Xv4 db bd.out.2 (by omega) z8 fn.out fr.out)
   have jm:Hid (∀i,i<q->ps.getD i 0<q):=b3.out.2.1
   have ch:Hid (∀i,i<q->okB ((fun j=>Js us vs (ps.getD j 0)) i)=true):=fun i hi=>cg.out _ (jm.out i hi)
   have ft:=Xa (Ve ch.out q (Nat.le_refl _))
   obtain ⟨la,lb,fu⟩:=Xg da
   obtain ⟨lc,ld,fv⟩:=Xg db
   rw[bd.out.1] at fu
   rw[bd.out.2] at fv
   subst fu fv
   have zw:=fq.out.size
   clear da db cc
   go_wp2_with fail
   refine (Xa5 w8.heap.size 6 _ _ ns q (fun j=>Js us vs (ps.getD j 0)) w8 (by have:=jl.out;rw[bd.out.1] at *;exact this) fs.out (Nat.le_refl _) (by omega) (by rw[bd.out.1];omega) (by have:=ft.out;omega) (Xc1 ch.out)).mono ?_
   rintro e w9 ⟨r,KV,IV,rfl,b4,fw⟩
   rw[<-c9.out] at b4
   have cd:=Xa (fq.out.trans (fw.mono zw))
   have fx:=Xa (b4.low zw)
   have b5:=Xa (b4.nodes (Nat.le_trans b3.out.2.2.1 (by omega)) (fun i hi=>(b3.out.2.2.2 i hi).1))
   obtain ⟨ar,cr,er⟩:=Xg b4.row
   obtain ⟨NS,fy⟩:∃NS,Z6 us vs=NS:=⟨_,rfl⟩
   rw[fy] at HM fx b5 er
   obtain ⟨NN,fz⟩:∃NN,NS.length=NN:=⟨_,rfl⟩
   rw[fz] at er
   subst er
   clear b4 fw fz fy c9 b3 fs ft
   cases G:okB NS
   ·go_wp2_with fail
    refine (Gk w9.heap.size _ _ w9 b5.out (Nat.le_refl _) G).mono ?_
    rintro e jn ⟨rfl,L⟩
    have b6:=Xa (cd.out.trans (L.mono cd.out.size))
    clear L
    go_wp2_with fail
    go_ret2
    exact ⟨_,w.heap.size,fun _=>undef,fun _=>undef,by rw[HM.out.1,G];rfl,Nat.le_refl _,by rw[HM.out.2,G];exact Nest.nil _ _ _ _,b6.out⟩
   ·go_wp2_with fail
    refine (Vm w9.heap.size _ _ w9 b5.out (Nat.le_refl _) G).mono ?_
    rintro e jn ⟨rfl,L⟩
    have b6:=Xa (cd.out.trans (L.mono cd.out.size))
    have f0:=Xa (fx.out.below L)
    clear L
    go_wp2_with fail
    go_ret2
    exact ⟨_,w.heap.size,KV,IV,by rw[HM.out.1,G];rfl,Nat.le_refl _,by rw[HM.out.2,G];exact f0.out,b6.out⟩
end Go.Proofs.YtdjddneidbddpaaGreatDoor
