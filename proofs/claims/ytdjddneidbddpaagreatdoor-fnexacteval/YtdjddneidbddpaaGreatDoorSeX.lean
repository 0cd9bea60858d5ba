import Derived.Test.YtdjddneidbddpaaGreatDoorSeW
import Derived.Test.YtdjddneidbddpaaGreatDoorSeA7
import Derived.Test.YtdjddneidbddpaaGreatDoorEvV
namespace Go.Proofs.YtdjddneidbddpaaGreatDoor
set_option linter.unusedSectionVars false
set_option maxRecDepth 100000
set_option maxHeartbeats 6400000
open Go.RowKit
set_option linter.unusedSimpArgs false
set_option linter.unusedVariables false
def Xqa (B E d:Nat) (fv:Value) (fs:List FN) (R:Int×Xs) (G:Option Nat) (bO:Nat) (w:World) (e:Ending) (w':World):Prop:=
 ∃sv xs m c fu,e= .returned sv/\SE B E fv fs fu c w'/\FrX E G w w'/\LR E bO w' sv xs m/\(sv.ownBlock=G\/∀y,sv.ownBlock=some y->w.heap.size<=y)/\Now R Yh c fu m/\m.length<=41/\fu<=d
def Xja (B E d:Nat) (fv:Value) (fs:List FN) (x:FN) (mm:Nat):Prop:=∀(kc kn ki v:Value) (ns:List VN) (done out:List (List VN)) (dv ov:Value) (dxs oxs:List Value) (bD bO fu:Nat) (w:World),done.length+mm=x.kids.length->FNodeIn B w x kc kn ki->SE B E fv fs fu 0 w->NR E w v ns->LR E bD w dv dxs done->LR E bO w ov oxs out->(dv.ownBlock=none\/dv.ownBlock≠ov.ownBlock)->out.length<=40->fu<=d->bO<=w.heap.size->
 Calls Tryz.prog 76 #[.pointer (some ⟨E,0,none⟩),Ym x kc kn ki,v,dv,ov] w (Xqa B E d fv fs (Z3 (Xh fs d) x.names ns Xl (x.kids.drop done.length) done (fu,out)) ov.ownBlock bO w)
theorem Xy1 {B E d:Nat} {fv:Value} {fs:List FN} {x:FN} (hx:NodeOk fs x) (k9:x.kind=9):Xja B E d fv fs x 0:=by
 intro kc kn ki v ns b j dv ov c3 b9 bD bO fu w ca s hs hv bf M cb X cc c4
 obtain ⟨m1,m2⟩:=hx.map k9
 have hE:=hs.lt
 have c7:=hs.hBE
 obtain ⟨_,aC,cC,rfl,_⟩:=id s.cst
 obtain ⟨_,_,aK,cK,rfl,_⟩:=id s.names
 obtain ⟨_,_,aI,cI,rfl,_⟩:=id s.kids
 have e9:Z3 (Xh fs d) x.names ns Xl (x.kids.drop b.length) b (fu,j)=Yk (Yo (Xcs x.names b)) Xl (fu,j):=by
  rw[show b.length=x.kids.length by omega,List.drop_length];rfl
 rw[e9]
 obtain ⟨L,bg⟩:∃L,Yo (Xcs x.names b)=L:=⟨_,rfl⟩
 have ce:Hid (Yo (Yi 6 x.names (Xn b) b.length)=L):=bg
 obtain ⟨R,hR⟩:∃R,Yk L Xl (fu,j)=R:=⟨_,rfl⟩
 rw[bg,hR]
 have P:Hid (Now R Yh (Zj L.1 (j.length+(Zd L).length)) fu (j++Zd L)):=Xj9 X (by rw[Xan,hR])
 have cf:=Xa (V5 L)
 obtain ⟨W2,t⟩:∃W2,w.alloc (.cells #[.int .i64 x.kind, .string x.name, .int .i64 x.place, .slice aC x.cst.length cC, .slice aK x.names.length cK, .slice aI x.kids.length cI] 84)=W2:=⟨_,rfl⟩
 have g2:W2.heap.size=w.heap.size+1:=by rw[<-t];simp
 have p:Below w.heap.size w W2:=by rw[<-t];exact (Below.refl _ _).alloc (Nat.le_refl _) _
 have z:W2.heap[w.heap.size]? =some (.cells #[.int .i64 x.kind, .string x.name, .int .i64 x.place, .slice aC x.cst.length cC, .slice aK x.names.length cK, .slice aI x.kids.length cI] 84 (0,0)):=by rw[<-t];exact heap_alloc_new w _
 have y4:W2.cell? ⟨w.heap.size,4,none⟩=some (.slice aK x.names.length cK):=Xw z 4
 have y5:W2.cell? ⟨w.heap.size,5,none⟩=some (.slice aI x.kids.length cI):=Xw z 5
 have cg:=Xa p
 have ch:=Xa (hs.below p)
 have Y:=Xa (M.keepB p)
 have bh:=(s.names.below (p.mono (by omega)))
 have bq:=Xa (Xae (kind:=6) (by decide) (by decide) (bf.keepB p) (by omega) bh (by omega) (by omega) bh.2.1)
 have HE:=Xa hE
 obtain ⟨ao,co,ci⟩:=M.slice
 obtain ⟨ad,cd,cj⟩:=bf.slice
 obtain ⟨av,cv,ck⟩:=hv.slice
 subst ci cj ck
 obtain ⟨Z,hO⟩:∃Z,j.length=Z:=⟨_,rfl⟩
 have C:=Xa hO
 obtain ⟨DL,hD⟩:∃DL,b.length=DL:=⟨_,rfl⟩
 have cl:=Xa hD
 obtain ⟨NN,S⟩:∃NN,x.names.length=NN:=⟨_,rfl⟩
 obtain ⟨LN,br⟩:∃LN,ns.length=LN:=⟨_,rfl⟩
 have bi:x.kids.length=DL:=by omega
 rw[hD,S] at bq
 rw[hO] at Y X
 rw[S] at y4 t
 rw[bi] at y5 t
 unfold Ym
 rw[hO,hD,S,bi,br]
 have bs:=Xa g2
 obtain ⟨i0,cm,cn,cp,cq⟩:=info_parts J8
 have bt:=M.row.lt
 have da:=Xa bt
 clear ca s hs hv bf M cb hx k9 m1 m2 e9 bg hR p z bh hE hO hD S br bi bt
 go_enter Tryz.func76,Tryz.ntmps76
 go_wp2_with fail
 refine bq.out.mono ?_
 rintro e w5 ⟨u,db,dc,rfl,bj,D,cr,bu⟩
 have bv:=Xa (Uq (E:=E) bj (by have:=HE.out;have:=bs.out;omega) (by omega) bu)
 rw[<-cl.out,ce.out] at bv
 have bw:=Xa (cg.out.trans (D.mono (by have:=bs.out;omega)))
 have cs:=Xa (ch.out.below D)
 have bx:=Xa (Y.out.keepB D)
 have z5:=D.size
 obtain ⟨a5,c5,e5⟩:=Xg bj.row
 obtain ⟨L5,bz⟩:∃L5,(Yi 6 x.names (Xn b) DL).length=L5:=⟨_,rfl⟩
 rw[bz] at e5
 subst e5
 clear bj D cr bu bz
 go_wp2_with fail
 refine bv.out.mono ?_
 rintro e w6 ⟨u6,rfl,⟨a6,l6,c6,rfl⟩,b0,T⟩
 have ct:=Xa (bw.out.trans (T.mono (by have:=bw.out.size;omega)))
 have b1:=Xa (bx.out.keepB T)
 have b2:=Xa (Xbf (cs.out.below T) ⟨a6,l6,c6,rfl⟩ b0)
 obtain ⟨rc,b3⟩:∃rc,L.1=rc:=⟨_,rfl⟩
 rw[b3] at b2 P|-
 clear b0 T b3
 go_wp2_with fail
 refine b2.out.mono ?_
 rintro e w8 ⟨dd,cu,rfl,b4,bk,q⟩
 have ba:Hid (FrX E (Value.slice ao Z co).ownBlock w w8):=((ButE.of_below ct.out).trans bk).frx _
 have g:=b1.out.keep bk
 have l:=g.row
 rw[C.out] at l
 have c:=q.len
 have F:=q.ones
 have G:=q.inn
 obtain ⟨a8,c8,rfl⟩:=q.slice
 have o:=q.src
 have cw:=ba.out.keep.size
 obtain ⟨m8,bl⟩:∃m8,Zd L=m8:=⟨_,rfl⟩
 have c2:m8.length<=1:=by rw[<-bl];exact cf.out
 rw[bl] at P c G o|-
 clear bl
 go_wp2_with (at_builtin;refine Yd rfl _ _ 28 rfl bO 25 i0 (.slice none 0 0) 1 24 Tryz.underlying28 cm cn cp cq rfl (by decide) _ Z b9 rfl l a8 m8.length c8 cu rfl (by rw[c,Nat.mul_one]) o F (by unfold maxLen;omega) (by omega) (by omega) ?_)
 intro v9 w9 f bm bb
 have b5:Hid (v9.ownBlock=(Value.slice ao Z co).ownBlock\/∀y,v9.ownBlock=some y->w.heap.size<=y):=by
  rcases bb with e|e
  ·exact .inl e
  ·exact .inr (fun y hy=>by rw[e] at hy;cases hy;exact cw)
 have cx:=Xa (b4.grown g.row g.lo bm)
 rw[<-C.out] at f
 obtain ⟨bc,bd⟩:=g.append c G f bm
 have b6:=Xa bc
 have b7:Hid (FrX E (Value.slice ao Z co).ownBlock w w9):=ba.out.trans bd (.inl rfl)
 have cy:Hid ((j++m8).length<=41):=by unfold Hid;rw[List.length_append,C.out];omega
 obtain ⟨a9,c9,e9⟩:=Xg f
 rw[C.out] at e9
 obtain ⟨V,bn⟩:∃V,Z+m8.length=V:=⟨_,rfl⟩
 rw[C.out,bn] at P
 rw[bn] at e9
 subst e9
 clear f bm bb bc bd c G F l o b4 bk q g bn
 go_wp2_with fail
 refine (Zr a9 V c9 cx.out).mono ?_
 rintro e cz ⟨rfl,be,J⟩
 have b8:=Xa be
 have bo:Hid (FrX E (Value.slice ao Z co).ownBlock w cz):=b7.out.trans (J.frx _) (.inl rfl)
 have bp:=Xa (b6.out.keep J)
 clear be J
 go_wp2_with fail
 go_ret
 exact ⟨.slice a9 V c9,_,_,_,fu,rfl,b8.out,bo.out,bp.out,b5.out,P.out,cy.out,cc⟩
end Go.Proofs.YtdjddneidbddpaaGreatDoor
