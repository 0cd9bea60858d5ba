import Derived.Test.YtdjddneidbddpaaGreatDoorEq
import Derived.Laws.Cover1
namespace Go.Proofs.YtdjddneidbddpaaGreatDoor
set_option linter.unusedSectionVars false
set_option maxRecDepth 100000
set_option maxHeartbeats 3200000
open Go.RowKit
set_option linter.unusedSimpArgs false
set_option linter.unusedVariables false
theorem Xid {l:List ByteArray} (h:∀j,j<l.length->Qd l j=true):Qs l=true:=by
 unfold Qs
 rw[List.all_eq_true]
 exact fun j hj=>h j (List.mem_range.1 hj)
theorem Wx {l:List ByteArray} {k:Nat} (hk:k<l.length) (h:Qd l k=false):Qs l=false:=by
 unfold Qs
 rw[List.all_eq_false]
 exact ⟨k,List.mem_range.2 hk,by simp[h]⟩
theorem X4y (a b:Nat):((a:Int)==(b:Int))=decide (a=b):=by
 rw[Bool.eq_iff_iff];simp;omega
theorem Xtk (B : Nat) (x : VN) (ka ki : Value) (w : World) (h : NodeIn B w x ka ki) (hB : B <= w.heap.size) (hk : x.kind = 6) :
  Calls Tryz.prog 68 #[.agg #[.int .i64 x.kind, .int .i64 x.n, .string x.s,ka,ki]] w fun e w'=>e= .returned (.bool (Xz x))/\Below w.heap.size w w':=by
 have F:=h.size
 obtain ⟨G,y,J,c1,L,d⟩:=h.keys
 obtain ⟨M,_,P,R,S,_⟩:=h.kids
 subst L S
 clear h
 have z:Hid (x.kind=6):=hk
 have g:∀o,Below w.heap.size w (w.alloc o):=fun o=>(Below.refl _ _).alloc (Nat.le_refl _) o
 go_enter Tryz.func68,Tryz.ntmps68
 go_wp2_with fail
 all_goals
  go_loopw [4] (fun i wr=>∃k:Nat,k<=x.keys.length/\i= .int .i64 k/\(∀j,j<k->Qd x.keys j=true)/\Below (w.heap.size+1) (w.alloc (.cells #[.int .i64 6, .int .i64 x.n, .string x.s, .slice J x.keys.length c1, .slice P x.kids.length R] 75)) wr) (fun i _=>x.keys.length-(intOf i).toNat)
  case atStart=>exact ⟨0,Nat.zero_le _,rfl,fun j hj=>by omega,Below.refl _ _⟩
  case round =>
   obtain ⟨k,T,rfl,c,f⟩:=hrel
   have V:∀o,wr.cell? ⟨w.heap.size,o,none⟩=_:=fun o=>f.cell (p:=⟨w.heap.size,o,none⟩) (Nat.lt_succ_self _)
   by_cases hlt:k<x.keys.length
   ·obtain ⟨b,o,rfl,X,q⟩:=d (by omega)
    have Y:wr.cell? ⟨b,o+k,none⟩=some (.string (Xf x.keys k)):=(Xc (o:=o+k) f (by omega)).trans ((Xc (o:=o+k) (g _) (by omega)).trans (q k hlt))
    have t:=y k hlt
    by_cases ht:Z4 (Xf x.keys k)=true
    ·by_cases h0:k=0
     ·have l:Hid (∀j,j<k+1->Qd x.keys j=true):=fun j hj=>by
       obtain rfl:j=k:=by omega
       simp only[Qd,ht,h0,decide_true,Bool.true_or,Bool.and_true]
       rw[h0] at ht
       exact ht
      have hd:decide ((0:Int)<(k:Int))=false:=by simp;omega
      have C:decide (0<k)=false:=by simp;omega
      have HX:Hid (k=0):=h0
      clear c q d h0
      go_wp2_with fail
      go_quiet ((go_at_call 127;exact Calls.quiet_of_same (Ux _ _ t)))
      go_wp2_with fail
      go_roundw
      case rel=>exact ⟨k+1,by omega,by go_num,l.out,below_drewN f nq⟩
      case measure=>simp[intOf];omega
     ·have D:(0:Int)<(k:Int):=by omega
      have Z:wr.cell? ⟨b,o+(k-1),none⟩=some (.string (Xf x.keys (k-1))):=(Xc (o:=o+(k-1)) f (by omega)).trans ((Xc (o:=o+(k-1)) (g _) (by omega)).trans (q (k-1) (by omega)))
      have ba:decide ((0:Int)<(k:Int))=true:=by simp;omega
      have C:decide (0<k)=true:=by simp;omega
      have bb:0<k:=by omega
      have pw:IntKind.i64.wrap ((k:Int)-1)=(k:Int)-1:=by rw[IntKind.wrap_i64];omega
      have p0:((k:Int)-1).toNat=k-1:=by omega
      have p1:0<=(k:Int)-1:=by omega
      have p2:(k:Int)-1<(x.keys.length:Int):=by omega
      have p3:(1:Int)<=(k:Int):=by omega
      have p4:1<=k:=by omega
      have p5:(k:Int)<(x.keys.length:Int)+1:=by omega
      have p6:(k:Int)<=(x.keys.length:Int):=by omega
      have p7:k<=x.keys.length:=by omega
      have p8:k<x.keys.length+1:=by omega
      by_cases hl:Op.bytesLess (Xf x.keys (k-1)).toList (Xf x.keys k).toList=true
      ·have l:Hid (∀j,j<k+1->Qd x.keys j=true):=fun j hj=>by
        by_cases e:j=k
        ·subst e;simp[Qd,ht,Y2,hl]
        ·exact c j (by omega)
       clear c q d
       go_wp2_with fail
       go_quiet ((go_at_call 127;exact Calls.quiet_of_same (Ux _ _ t)))
       go_wp2_with fail
       go_roundw
       case rel=>exact ⟨k+1,by omega,by go_num,l.out,below_drewN f nq⟩
       case measure=>simp[intOf];omega
      ·have l:Hid (Qs x.keys=false):=Wx hlt (by simp[Qd,ht,Y2,hl];omega)
       have bc:Op.bytesLess (Xf x.keys (k-1)).toList (Xf x.keys k).toList=false:=by simpa using hl
       clear c q d hl
       go_wp2_with fail
       go_quiet ((go_at_call 127;exact Calls.quiet_of_same (Ux _ _ t)))
       go_wp2_with fail
       go_ret
       exact ⟨Xi (by simp[Xz,Zi,z.out,l.out]),(g _).trans ((below_drewN f nq).mono (by omega))⟩
    ·have l:Hid (Qs x.keys=false):=Wx hlt (by simp[Qd,ht])
     have bd:Z4 (Xf x.keys k)=false:=by simpa using ht
     clear c q d ht
     go_wp2_with fail
     go_quiet ((go_at_call 127;exact Calls.quiet_of_same (Ux _ _ t)))
     go_wp2_with fail
     go_ret
     exact ⟨Xi (by simp[Xz,Zi,z.out,l.out]),(g _).trans ((below_drewN f nq).mono (by omega))⟩
   ·obtain rfl:k=x.keys.length:=by omega
    have l:Hid (Qs x.keys=true):=Xid c
    clear c d
    go_wp2_with fail
    all_goals
     go_ret
     refine ⟨Xi ?_,(g _).trans (f.mono (by omega))⟩
     simp[Xz,Yr,Zi,z.out,l.out,X4y, *]


theorem Xmo (B:Nat) (x:VN) (ka ki:Value) (w:World) (h:NodeIn B w x ka ki) (hB:B<=w.heap.size):
  Calls Tryz.prog 68 #[.agg #[.int .i64 x.kind, .int .i64 x.n, .string x.s,ka,ki]] w fun e w'=>e= .returned (.bool (Xz x))/\Below w.heap.size w w':=by
 by_cases h1:x.kind=1
 ·exact Xtn B x ka ki w h hB h1
 by_cases h2:x.kind=2
 ·exact Xtq B x ka ki w h hB h2
 by_cases h3:x.kind=3
 ·exact Xtr B x ka ki w h hB h3
 by_cases h4:x.kind=4
 ·exact Xts B x ka ki w h hB h4
 by_cases h5:x.kind=5
 ·exact Xto B x ka ki w h hB h5
 by_cases h6:x.kind=6
 ·exact Xtk B x ka ki w h hB h6
 exact Xtp B x ka ki w h hB h1 h2 h3 h4 h5 h6
def K5 (T:Nat->Option (Nat×Nat)) (kids:List Int) (n r:Nat):Option (Nat×Nat):=((kids.drop r).reverse).foldl (Xy T) (some (n,0))
theorem Xmp (T:Nat->Option (Nat×Nat)) (kids:List Int) (n:Nat):K5 T kids n kids.length=some (n,0):=by simp[K5]
theorem Xei (T:Nat->Option (Nat×Nat)) (kids:List Int) (n r:Nat) (h:r<kids.length):K5 T kids n r=Xy T (K5 T kids n (r+1)) (Xj kids r):=by
 unfold K5
 rw[List.drop_eq_getElem_cons h,List.reverse_cons,List.foldl_append]
 simp[Xj,h]
theorem Xvh {T:Nat->Option (Nat×Nat)} {kids:List Int} {n:Nat}:∀r,r<=kids.length->K5 T kids n r=none->K5 T kids n 0=none:=by
 intro r
 induction r with
 |zero=>intro _ h;exact h
 |succ r ih=>
  intro b h
  apply ih (by omega)
  rw[Xei T kids n r (by omega),h]
  rfl
theorem Xmq {K:Nat->List Int} {n b h:Nat} (e:K5 (tr K) (K n) n 0=some (b,h)):tr K n=some (b,h+1):=by
 rw[Gy]
 unfold K5 at e
 rw[List.drop_zero] at e
 rw[e]
 rfl
theorem V7 {K:Nat->List Int} {n r:Nat} (hr:r<=(K n).length) (e:K5 (tr K) (K n) n r=none):tr K n=none:=by
 have b:=Xvh r hr e
 rw[Gy]
 unfold K5 at b
 rw[List.drop_zero] at b
 rw[b]
 rfl
theorem Xvi (h p:Nat):(if h<p then (p:Int) else (h:Int))=((max h p:Nat):Int):=by
 split<;>omega
def trF (o:Option (Nat×Nat)):Int:=match o with
 |some p=>p.1
 |none=> -1
def trD (o:Option (Nat×Nat)):Int:=match o with
 |some p=>p.2
 |none=>0
theorem Vq {a b c d:Int} (h1:a=c) (h2:b=d):Ending.returned (.tuple #[.int .i64 a, .int .i64 b])= .returned (.tuple #[.int .i64 c, .int .i64 d]):=by rw[h1,h2]
theorem Xhx (B:Nat) (v:Value) (vs:List VN) (N:Nat):∀(n:Nat) (w:World),n<N->n<vs.length->NodesAt B w v vs->
  Calls Tryz.prog 69 #[v, .int .i64 n] w fun e w'=>e= .returned (.tuple #[.int .i64 (trF (tr (Yc vs) n)), .int .i64 (trD (tr (Yc vs) n))])/\w'=w:=by
 induction N with
 |zero=>intro n w h;omega
 |succ N ih =>
  intro n w hN T F
  have V:Hid (NodesAt B w v vs):=F
  have X:=Xa ih
  obtain ⟨G,a,Y,rfl,j⟩:=F
  obtain ⟨b0,o0,rfl,Z,hc⟩:=j (by omega)
  obtain ⟨ka,ki,c⟩:=hc n T
  have ba:=c.c4
  obtain ⟨bb,bc,ak,ck,rfl,s⟩:=c.inn.kids
  have l:Hid (Yc vs n=(Xb vs n).kids):=Xa rfl
  generalize (Xb vs n).kids=kids at *
  generalize Yc vs=K at *
  go_enter Tryz.func69,Tryz.ntmps69
  go_wp2_with fail
  go_loopw [6,7,8] (fun t d i wr=>∃(r b h:Nat) (z:Int),r<=kids.length/\i= .int .i64 z/\z=(r:Int)-1/\t= .int .i64 ((b:Int)-1)/\d= .int .i64 h/\b<=n/\h<=n/\Hid (K5 (tr K) kids n r=some (b,h))/\wr=w) (fun _ _ i _=>(intOf i+1).toNat)
  case atStart=>exact ⟨kids.length,n,0,_,Nat.le_refl _,rfl,rfl,rfl,rfl,Nat.le_refl _,Nat.zero_le _,Xmp _ _ _,rfl⟩
  case round =>
   obtain ⟨r,b,h,z,hr,rfl,J,rfl,rfl,bd,be,L,rfl⟩:=hrel
   by_cases hr0:r=0
   ·obtain rfl:z= -1:=by omega
    have f:Hid (tr K n=some (b,h+1)):=Xmq (by rw[l.out,<-hr0];exact L.out)
    clear J
    go_wp2_with fail
    go_ret2
    exact ⟨Vq (by rw[f.out];simp[trF]) (by rw[f.out];simp[trD]),rfl⟩
   ·obtain ⟨q,rfl⟩:∃q,r=q+1:=⟨r-1,by omega⟩
    obtain rfl:z=(q:Int):=by omega
    obtain ⟨b1,o1,rfl,bf,g⟩:=s (by omega)
    have bg:=g q (by omega)
    have y:q<kids.length:=by omega
    have C:Hid (K5 (tr K) kids n q=Xy (tr K) (some (b,h)) (Xj kids q)):=by
     have:=Xei (tr K) kids n q y
     rw[L.out] at this
     exact this
    clear J s g hr0
    by_cases hb:b=0
    ·have f:Hid (tr K n=none):=V7 (r:=q) (by rw[l.out];omega) (by rw[l.out,C.out];simp[Xy,hb])
     have M:(b:Int)-1<0:=by omega
     go_wp2_with fail
     go_ret2
     exact ⟨Vq (by rw[f.out];rfl) (by rw[f.out];rfl),rfl⟩
    ·obtain ⟨m,rfl⟩:∃m,b=m+1:=⟨b-1,by omega⟩
     have o:(((m+1:Nat):Int)-1)=(m:Int):=by omega
     rw[o]
     by_cases hkid:Xj kids q=(m:Int)
     ·have D:(Xj kids q !=(m:Int))=false:=by simp[hkid]
      have P:Hid (K5 (tr K) kids n q=(tr K m).map (fun p=>(p.1,max h p.2))):=by
       refine C.out.trans ?_
       simp[Xy,hkid]
      go_wp2_with fail
      refine (X.out m _ (by omega) (by omega) V.out).mono ?_
      rintro e w' ⟨rfl,rfl⟩
      cases htr:tr K m with
      |none=>
       have f:Hid (tr K n=none):=V7 (r:=q) (by rw[l.out];omega) (by rw[l.out,P.out,htr];rfl)
       simp only[trF,trD]
       go_wp2_with fail
       go_ret2
       exact ⟨Vq (by rw[f.out];rfl) (by rw[f.out];rfl),rfl⟩
      |some p=>
       obtain ⟨R,S⟩:=p
       have hd:=Xj1 m _ htr
       have HY:Hid (K5 (tr K) kids n q=some (R,max h S)):=P.out.trans (by rw[htr];rfl)
       simp only[trF,trD]
       simp only at hd
       go_wp2_with fail
       go_roundw
       case rel=>exact ⟨q,R,max h S,_,by omega,rfl,rfl,rfl,by first|rw[Xvi]|(congr 1;omega),by omega,by omega,HY,by trivial⟩
       case measure=>simp[intOf]
     ·have D:(Xj kids q !=(m:Int))=true:=by simp[hkid]
      have f:Hid (tr K n=none):=V7 (r:=q) (by rw[l.out];omega) (by rw[l.out,C.out];simp[Xy,hkid])
      go_wp2_with fail
      go_ret2
      exact ⟨Vq (by rw[f.out];rfl) (by rw[f.out];rfl),rfl⟩
theorem Y8 {l:List Int} {j:Nat} (h:j<l.length):Xj l j=l[j]:=by simp[Xj,h]
theorem Xc5 {vs:List VN} (h:vs.length<1\/80<vs.length):okB vs=false:=by
 have:Gz vs=false:=by simp[Gz];omega
 simp[okB,this]
theorem Xg4 {vs:List VN} {k:Nat} (hk:k<vs.length) (h:Xz (Xb vs k)=false):okB vs=false:=by
 unfold okB
 rw[show ((List.range vs.length).all fun i=>Xz (Xb vs i)&&Z5 vs i)=false from ?_,Bool.and_false,Bool.false_and]
 rw[List.all_eq_false]
 exact ⟨k,List.mem_range.2 hk,by simp[h]⟩
theorem X2g {vs:List VN} {k j:Nat} (hk:k<vs.length) (hj:j<(Xb vs k).kids.length) (h:inB (Xj (Xb vs k).kids j) 0 ((k:Int)-1)=false):okB vs=false:=by
 unfold okB
 rw[show ((List.range vs.length).all fun i=>Xz (Xb vs i)&&Z5 vs i)=false from ?_,Bool.and_false,Bool.false_and]
 rw[List.all_eq_false]
 refine ⟨k,List.mem_range.2 hk, ?_⟩
 have:Z5 vs k=false:=by
  unfold Z5
  rw[List.all_eq_false]
  refine ⟨Xj (Xb vs k).kids j, ?_,by simpa [inB] using h⟩
  unfold Yc
  rw[Y8 hj]
  exact List.getElem_mem _
 simp[this]
theorem Xvj {vs:List VN} {k:Nat} (h:∀j,j<(Xb vs k).kids.length->inB (Xj (Xb vs k).kids j) 0 ((k:Int)-1)=true):Z5 vs k=true:=by
 unfold Z5
 rw[List.all_eq_true]
 intro x c
 obtain ⟨j,d,rfl⟩:=List.getElem_of_mem c
 have b:j<(Xb vs k).kids.length:=d
 have:=h j b
 rw[Y8 b] at this
 exact this
theorem X3x {vs:List VN} (h1:1<=vs.length) (h2:vs.length<=80) (h:∀k,k<vs.length->Xz (Xb vs k)=true/\Z5 vs k=true):okB vs=Jo vs:=by
 unfold okB
 rw[show ((List.range vs.length).all fun i=>Xz (Xb vs i)&&Z5 vs i)=true from ?_]
 ·simp[Gz,h1,h2]
 ·rw[List.all_eq_true]
  intro k b
  have:=h k (List.mem_range.1 b)
  simp[this.1,this.2]
theorem Xax (B : Nat) (v : Value) (vs : List VN) (w : World) (h : NodesAt B w v vs) (hB : B <= w.heap.size) :
  Calls Tryz.prog 33 #[v] w fun e w'=>e= .returned (.bool (okB vs))/\Below w.heap.size w w':=by
 have HV:Hid (NodesAt B w v vs):=h
 obtain ⟨Z,a,bc,rfl,o⟩:=h
 by_cases h1:vs.length<1
 ·have g:Hid (okB vs=false):=Xc5 (Or.inl h1)
  have M:(vs.length:Int)<1:=by omega
  go_enter Tryz.func33,Tryz.ntmps33
  go_wp2_with fail
  go_ret
  exact ⟨Xi g.out.symm,Below.refl _ _⟩
 by_cases h2:80<vs.length
 ·have g:Hid (okB vs=false):=Xc5 (Or.inr h2)
  have M:¬(vs.length:Int)<1:=by omega
  have bd:(80:Int)<(vs.length:Int):=by omega
  go_enter Tryz.func33,Tryz.ntmps33
  go_wp2_with fail
  go_ret
  exact ⟨Xi g.out.symm,Below.refl _ _⟩
 obtain ⟨b0,o0,rfl,P,hc⟩:=o (by omega)
 go_enter Tryz.func33,Tryz.ntmps33
 go_wp2_with fail
 go_loopw [3] (fun i wr=>∃k:Nat,k<=vs.length/\i= .int .i64 k/\(∀j,j<k->Xz (Xb vs j)=true/\Z5 vs j=true)/\Below w.heap.size w wr) (fun i _=>vs.length-(intOf i).toNat)
 case atStart=>exact ⟨0,Nat.zero_le _,rfl,fun j hj=>by omega,Below.refl _ _⟩
 case round =>
  obtain ⟨k,hk,rfl,y,b⟩:=hrel
  have HA:=Xa y
  by_cases hlt:k<vs.length
  ·obtain ⟨ka,ki,G⟩:=hc k hlt
   have f:=G.below (b.mono hB) P
   have c0:=f.c0
   have c1:=f.c1
   have c2:=f.c2
   have c3:=f.c3
   have c4:=f.c4
   have z:=Xa f.inn
   have s:=b.size
   go_wp2_with fail
   refine (Xmo B (Xb vs k) ka ki _ z.out (by omega)).mono ?_
   rintro e J ⟨rfl,t⟩
   have c:Below w.heap.size w J:=b.trans (t.mono s)
   have d:=(z.out.below (t.mono (by omega)))
   have d4:J.cell? ⟨b0,o0+k *5+4,none⟩=some ki:=(Xc t (by omega)).trans c4
   obtain ⟨be,bf,ak,ck,rfl,R⟩:=d.kids
   by_cases hnb:Xz (Xb vs k)=true
   ·have hN:=Xa hnb
    go_wp2_with fail
    go_loopw [4] (fun i wr=>∃q:Nat,q<=(Xb vs k).kids.length/\i= .int .i64 q/\(∀j,j<q->inB (Xj (Xb vs k).kids j) 0 ((k:Int)-1)=true)/\wr=J) (fun i _=>(Xb vs k).kids.length-(intOf i).toNat)
    case atStart=>exact ⟨0,Nat.zero_le _,rfl,fun j hj=>by omega,rfl⟩
    case round=>
     obtain ⟨q,hq,rfl,C,rfl⟩:=hrel
     have HI:=Xa C
     by_cases hlq:q<(Xb vs k).kids.length
     ·obtain ⟨b1,o1,rfl,ba,bb⟩:=R (by omega)
      go_wp2_with fail
      refine (Vx _ _ _ _).mono ?_
      rintro e w2 ⟨rfl,rfl⟩
      by_cases hib:inB (Xj (Xb vs k).kids q) 0 ((k:Int)-1)=true
      ·have S:Hid (∀j,j<q+1->inB (Xj (Xb vs k).kids j) 0 ((k:Int)-1)=true):=fun j hj=>by
        by_cases e:j=q
        ·subst e;exact hib
        ·exact HI.out j (by omega)
       go_wp2_with fail
       go_roundw
       case rel=>exact ⟨q+1,by omega,by go_num,S.out,by trivial⟩
       case measure=>simp[intOf];omega
      ·have D:inB (Xj (Xb vs k).kids q) 0 ((k:Int)-1)=false:=by simpa using hib
       have g:Hid (okB vs=false):=X2g hlt hlq D
       go_wp2_with fail
       go_ret
       exact ⟨Xi g.out.symm,c⟩
     ·obtain rfl:q=(Xb vs k).kids.length:=by omega
      have T:Hid (∀j,j<k+1->Xz (Xb vs j)=true/\Z5 vs j=true):=fun j hj=>by
       by_cases e:j=k
       ·subst e;exact ⟨hN.out,Xvj HI.out⟩
       ·exact HA.out j (by omega)
      go_wp2_with fail
      go_roundw
      case rel=>exact ⟨k+1,by omega,by go_num,T.out,c⟩
      case measure=>simp[intOf];omega
   ·have F:Xz (Xb vs k)=false:=by simpa using hnb
    have g:Hid (okB vs=false):=Xg4 hlt F
    clear hnb d
    go_wp2_with fail
    go_ret
    exact ⟨Xi g.out.symm,c⟩
  ·obtain rfl:k=vs.length:=by omega
   have g:Hid (okB vs=Jo vs):=X3x (by omega) (by omega) HA.out
   obtain ⟨n,G⟩:∃n,vs.length=n+1:=⟨vs.length-1,by omega⟩
   have V:((vs.length:Int)-1)=(n:Int):=by omega
   have X:=Xa (HV.out.below (b.mono hB))
   have HN:=Xa G
   have HR:Hid (Jo vs=match tr (Yc vs) n with
    |some p=>decide (p.1=0)&&decide (p.2<=8)
    |none=>false):=by
    unfold Jo Hid
    rw[show vs.length-1=n by omega]
    rfl
   clear hc G
   go_wp2_with fail
   refine (Xhx B _ vs (n+1) n _ (by omega) (by have:=HN.out;omega) X.out).mono ?_
   rintro e J ⟨rfl,rfl⟩
   cases htr:tr (Yc vs) n with
   |none=>
    have l:Hid (Jo vs=false):=by rw[Hid,HR.out,htr]
    simp only[trF,trD]
    go_wp2_with fail
    go_ret
    exact ⟨Xi (by rw[g.out,l.out]),b⟩
   |some p=>
    obtain ⟨L,p2⟩:=p
    have l:Hid (Jo vs=(decide (L=0)&&decide (p2<=8))):=by rw[Hid,HR.out,htr]
    simp only[trF,trD]
    by_cases hp:L=0
    ·have hq:((L:Int)==0)=true:=by simp[hp]
     have Y:=Xa hp
     go_wp2_with fail
     go_ret
     exact ⟨Xi (by rw[g.out,l.out];simp[Y.out];omega),b⟩
    ·have hq:((L:Int)==0)=false:=by simp[hp]
     have Y:=Xa hp
     go_wp2_with fail
     go_ret
     exact ⟨Xi (by rw[g.out,l.out];simp[Y.out]),b⟩
end Go.Proofs.YtdjddneidbddpaaGreatDoor
