import Derived.Test.YtehihemfepbmfaaGreatDoorGupN
import Derived.Test.YtehihemfepbmfaaGreatDoorIxB
import Derived.Test.YtehihemfepbmfaaGreatDoorUneP
import Derived.Test.YtehihemfepbmfaaGreatDoorEq
namespace Go.Proofs.YtehihemfepbmfaaGreatDoor
set_option linter.unusedSectionVars false
set_option maxHeartbeats 6400000
open Go.RowKit
set_option linter.unusedSimpArgs false
set_option linter.unusedVariables false
structure SrAt (w:World) (rb:Nat) (s:ByteArray) (p:Nat):Prop where
 br:BrAt w rb s p
 bl:w.cell? ⟨rb,2,none⟩=some (.string ⟨#[9,10,13,32]⟩)
def placeOf (w:World) (rb:Nat):Nat:=match w.cell? ⟨rb,1,none⟩ with
 |some v=>(intOf v).toNat
 |none=>0
theorem byS {s:ByteArray} {p:Nat} (h:p<s.size):s[p].toNat=Xh s.data.toList p:=(Xx4 h).symm
set_option maxRecDepth 100000 in
theorem Xax {rb p:Nat} {s:ByteArray} {w:World} (h:BrAt w rb s p) (hs:s.size≤1048576):
  Calls Tryz.prog 143 #[.pointer (some ⟨rb,0,none⟩)] w fun e w'=>e= .returned (.int .u8 (Xh s.data.toList p:Int))∧Below w.heap.size w w':=by
 have H:=Xa h
 have h1:=h.src
 have h2:=h.place
 have h4:=h.lt
 have h5:=h.le
 clear h
 by_cases hp:p<s.size
 ·have hne:((p:Int)==(s.size:Int))=false:=by simp;omega
  have HB:=Xa (byS hp)
  go_enter Tryz.func143,Tryz.ntmps143
  go_wp2_with fail
  go_quiet (fail)
  have HD1:=Xa (Xq (w:=w) nq)
  have HR1:=Xa (H.out.below HD1.out)
  have k1:=HR1.out.src
  have k2:=HR1.out.place
  generalize w.drewN nq=W1 at HR1 HD1 k1 k2⊢
  clear nq h1 h2
  go_wp2_with fail
  go_quiet (fail)
  have HD2:=Xa (Xq (w:=W1) nq)
  go_wp2_with fail
  go_ret
  exact ⟨by rw[HB.out];rfl,HD1.out.trans (HD2.out.mono HD1.out.size)⟩
 ·obtain rfl:p=s.size:=by omega
  have HB:Hid (Xh s.data.toList s.size=0):=Q2 (by rw[Xm];omega)
  go_enter Tryz.func143,Tryz.ntmps143
  go_wp2_with fail
  go_quiet (fail)
  go_wp2_with fail
  go_ret
  exact ⟨by rw[HB.out];rfl,Xq nq⟩

structure SfAt (X:Nat→Option Value) (w:World) (rb:Nat) (s:ByteArray) (p:Nat):Prop where
 br:BrAt w rb s p
 bl:∀j,j≠1→w.cell? ⟨rb,j,none⟩=X j
 fz:∀j,w.frozen? ⟨rb,j,none⟩=false
theorem SfAt.keep {X:Nat→Option Value} {w w':World} {rb p:Nat} {s:ByteArray} (h:SfAt X w rb s p) (hb:w'.heap[rb]? =w.heap[rb]?) (hz:w.heap.size≤w'.heap.size):SfAt X w' rb s p:=⟨h.br.keep hb hz,fun j hj=>(Xcv hb).trans (h.bl j hj),fun j=>(Xin hb).trans (h.fz j)⟩
theorem SfAt.below {X:Nat→Option Value} {w w':World} {rb p:Nat} {s:ByteArray} (h:SfAt X w rb s p) (hb:Below w.heap.size w w'):SfAt X w' rb s p:=h.keep (hb.block rb h.br.lt) hb.size
theorem SfAt.to {X:Nat→Option Value} {w:World} {rb p q:Nat} {s:ByteArray} (h:SfAt X w rb s p) (hq:q≤s.size):SfAt X (w.setCell ⟨rb,1,none⟩ (.int .i64 (q:Int))) rb s q:=
 ⟨⟨by simpa using h.br.lt,by rw[World.cell?_setCell_other (h:=by simp)];exact h.br.src,World.cell?_setCell_same _ _ _ h.br.place,by rw[World.frozen?_setCell];exact h.br.free,hq⟩,fun j hj=>by rw[World.cell?_setCell_other (h:=by simp)];exact h.bl j hj,fun j=>by rw[World.frozen?_setCell];exact h.fz j⟩
theorem SfAt.placeOf {X:Nat→Option Value} {w:World} {rb p:Nat} {s:ByteArray} (h:SfAt X w rb s p):placeOf w rb=p:=by unfold Go.Proofs.YtehihemfepbmfaaGreatDoor.placeOf;rw[h.br.place];simp[intOf]
set_option maxRecDepth 100000 in
theorem Xa4 {X:Nat→Option Value} {rb p:Nat} {s:ByteArray} {w:World} (h:SfAt X w rb s p) (hp:p<s.size) (hs:s.size≤1048576):
  Calls Tryz.prog 177 #[.pointer (some ⟨rb,0,none⟩)] w fun e w'=>e= .returned (.int .u8 (s[p].toNat:Int))∧SfAt X w' rb s (p+1)∧But rb w w':=by
 have H:=Xa h
 have h1:=h.br.src
 have h2:=h.br.place
 have h3:=h.br.free
 have h4:=h.br.lt
 clear h
 have hne:((p:Int)==(s.size:Int))=false:=by simp;omega
 go_enter Tryz.func177,Tryz.ntmps177
 go_wp2_with fail
 go_quiet (fail)
 have HD1:=Xa (Xq (w:=w) nq)
 have HR1:=Xa (H.out.below HD1.out)
 have k1:=HR1.out.br.src
 have k2:=HR1.out.br.place
 have k3:=HR1.out.br.free
 generalize w.drewN nq=W1 at HR1 HD1 k1 k2 k3⊢
 clear nq h1 h2 h3
 go_wp2_with fail
 go_quiet (fail)
 have HD2:=Xa (Xq (w:=W1) nq)
 have HR2:=Xa (HR1.out.below HD2.out)
 have l1:=HR2.out.br.src
 have l2:=HR2.out.br.place
 have l3:=HR2.out.br.free
 generalize W1.drewN nq=W2 at HR2 HD2 l1 l2 l3⊢
 clear nq k1 k2 k3
 go_wp2_with fail
 go_ret
 refine ⟨rfl,HR2.out.to hp, ?_⟩
 exact ((But.of_below HD1.out).trans (But.of_below HD2.out)).trans (But.of_set _ _)

theorem Xw4:∀n:Fin 256,Go.Lib.indexByte [48,49,50,51,52,53,54,55,56,57,97,98,99,100,101,102] (UInt8.ofNat (if 65≤n.val∧n.val≤70 then n.val+32 else n.val))=(match Kp n.val with|some d=>(d:Int)|none=> -1):=by decide+kernel
set_option maxRecDepth 100000 in
theorem Xjk (c:Nat) (hc:c<256) (w:World):
  Calls Tryz.prog 197 #[.int .u8 (c:Int)] w fun e w'=>w'=w∧((∃d:Nat,Kp c=some d∧e= .returned (.int .i64 (d:Int)))∨(Kp c=none∧e=gup)):=by
 have HX:=Xa (Xw4 ⟨c,hc⟩)
 obtain ⟨b,hb⟩:∃b,(if 65≤c∧c≤70 then c+32 else c)=b:=⟨_,rfl⟩
 have hb256:b<256:=by rw[←hb];split<;>omega
 have HBI:Hid (∀w,Calls Tryz.prog 109 #[.string ⟨#[48,49,50,51,52,53,54,55,56,57,97,98,99,100,101,102]⟩, .int .u8 (b:Int)] w fun e w'=>e= .returned (.int .i64 (Go.Lib.indexByte [48,49,50,51,52,53,54,55,56,57,97,98,99,100,101,102] (UInt8.ofNat b)))∧w'=w):=fun w=>by
  have:=Vl ⟨#[48,49,50,51,52,53,54,55,56,57,97,98,99,100,101,102]⟩ (UInt8.ofNat b) w
  rw[UInt8.toNat_ofNat',Nat.mod_eq_of_lt (by omega)] at this
  exact this
 cases hh:Kp c with
 | some d =>
  have h1:=HX.out
  simp only[hh] at h1
  rw[hb] at h1
  rw[h1] at HBI
  have hd:¬(d:Int)<0:=by have:=Int.natCast_nonneg d;omega
  clear h1 HX
  by_cases hu:65≤c∧c≤70
  ·obtain ⟨u1,u2⟩:=hu
   rw[if_pos ⟨u1,u2⟩] at hb
   have q1:(65:Int)≤(c:Int):=by omega
   have q2:(c:Int)≤70:=by omega
   have q3:IntKind.u8.wrap ((c:Int)+32)=(b:Int):=by rw[Xgr (by omega) (by omega)];omega
   clear hb
   go_enter Tryz.func197,Tryz.ntmps197
   go_wp2_with (go_at_call 109;refine (HBI.out _).mono ?_;rintro e w1 ⟨rfl,rfl⟩)
   go_ret
   exact ⟨rfl, .inl ⟨d,rfl,rfl⟩⟩
  ·rw[if_neg hu] at hb
   subst hb
   by_cases q1:(65:Int)≤(c:Int)
   ·have q2:¬(c:Int)≤70:=by omega
    go_enter Tryz.func197,Tryz.ntmps197
    go_wp2_with (go_at_call 109;refine (HBI.out _).mono ?_;rintro e w1 ⟨rfl,rfl⟩)
    go_ret
    exact ⟨rfl, .inl ⟨d,rfl,rfl⟩⟩
   ·go_enter Tryz.func197,Tryz.ntmps197
    go_wp2_with (go_at_call 109;refine (HBI.out _).mono ?_;rintro e w1 ⟨rfl,rfl⟩)
    go_ret
    exact ⟨rfl, .inl ⟨d,rfl,rfl⟩⟩
 | none =>
  have h1:=HX.out
  simp only[hh] at h1
  rw[hb] at h1
  rw[h1] at HBI
  have hu:¬(65≤c∧c≤70):=fun hu=>by unfold Kp at hh;rw[if_neg (by omega),if_neg (by omega),if_pos hu] at hh;cases hh
  clear h1 HX
  rw[if_neg hu] at hb
  subst hb
  by_cases q1:(65:Int)≤(c:Int)
  ·have q2:¬(c:Int)≤70:=by omega
   go_enter Tryz.func197,Tryz.ntmps197
   go_wp2_with (go_at_call 109;refine (HBI.out _).mono ?_;rintro e w1 ⟨rfl,rfl⟩)
   exact ⟨rfl,rfl, .inr ⟨by first|rfl|trivial,rfl⟩⟩
  ·go_enter Tryz.func197,Tryz.ntmps197
   go_wp2_with (go_at_call 109;refine (HBI.out _).mono ?_;rintro e w1 ⟨rfl,rfl⟩)
   exact ⟨rfl,rfl, .inr ⟨by first|rfl|trivial,rfl⟩⟩

theorem Xwr:∀n:Fin 256,n.val≠47→(Uq n.val=none∧Go.Lib.indexByte [34,92,98,116,110,102,114] (UInt8.ofNat n.val)= -1)∨∃i:Fin 7,Go.Lib.indexByte [34,92,98,116,110,102,114] (UInt8.ofNat n.val)=(i.val:Int)∧Uq n.val=some (([34,92,8,9,10,12,13]:List Nat).getD i.val 0):=by decide+kernel
theorem Xg4 {L:List UInt8} {p:Nat} (h:L.length≤p):Z1 L p=none:=by unfold Z1;rw[if_pos h]
theorem Xek {L:List UInt8} {p b:Nat} (h:p<L.length) (hb:Uq (Xh L p)=some b):Z1 L p=some (b,p+1):=by unfold Z1;rw[if_neg (by omega)];simp only[hb]
theorem Xg5 {L:List UInt8} {p:Nat} (h:p<L.length) (hb:Xh L p=117):Z1 L p=Ku L (p+1):=by
 unfold Z1
 rw[if_neg (by omega)]
 have:Uq (Xh L p)=none:=by rw[hb];rfl
 simp only[this,if_pos hb]
theorem Xg6 {L:List UInt8} {p:Nat} (h:p<L.length) (hb:Uq (Xh L p)=none) (hc:Xh L p≠117):Z1 L p=none:=by
 unfold Z1
 rw[if_neg (by omega)]
 simp only[hb,if_neg hc]
theorem Xws:∀i:Nat,i<7→∀h:i<(ByteArray.mk #[34,92,8,9,10,12,13]).size,((ByteArray.mk #[34,92,8,9,10,12,13])[i]'h).toNat=([34,92,8,9,10,12,13]:List Nat).getD i 0:=by
 intro i hi h
 rcases i with _|_|_|_|_|_|_|i
 ·rfl
 ·rfl
 ·rfl
 ·rfl
 ·rfl
 ·rfl
 ·rfl
 ·omega

set_option maxRecDepth 100000 in
theorem Xo2 {X:Nat→Option Value} {rb p:Nat} {s:ByteArray} {w:World} (h:SfAt X w rb s p) (hs:s.size≤1048576):
  Calls Tryz.prog 191 #[.pointer (some ⟨rb,0,none⟩)] w fun e w'=>((∃b q,Ku s.data.toList p=some (b,q)∧e= .returned (.int .u8 (b:Int))∧SfAt X w' rb s q)∨(Ku s.data.toList p=none∧e=gup))∧But rb w w':=by
 have H:=Xa h
 have hps:=h.br.le
 have hln:=Xm s
 have HLN:=Xa hln
 clear hln
 clear h
 go_enter Tryz.func191,Tryz.ntmps191
 go_wp2_with fail
 go_loopw [3,4] (fun n i wr=>∃(k v:Nat),k≤4∧i= .int .i64 (k:Int)∧n= .int .i64 (v:Int)∧Hid (Qk s.data.toList p k=some v)∧p+k≤s.size∧SfAt X wr rb s (p+k)∧But rb w wr) (fun _ i _=>4-(intOf i).toNat)
 case atStart=>exact ⟨0,0,by omega,rfl,rfl,rfl,by omega,H.out,But.refl _ _⟩
 case round=>
  obtain ⟨k,v,hk,rfl,rfl,HV,hpk,hsr,hbt⟩:=hrel
  have HS:=Xa hsr
  have HBT:=Xa hbt
  have hv:v<65536:=by
   have h1:=Xww _ _ HV.out
   have h2:16^k≤16^4:=Nat.pow_le_pow_right (by omega) hk
   omega
  clear hsr hbt
  by_cases hlt:k<4
  ·have hlt':(k:Int)<4:=by omega
   by_cases hq:p+k<s.size
   ·have HNX:=Xa (Xa4 HS.out hq hs)
    have hb:s[p+k].toNat=Xh s.data.toList (p+k):=byS hq
    rw[hb] at HNX
    have hb256:=Jt s.data.toList (p+k)
    obtain ⟨c,hc⟩:∃c,Xh s.data.toList (p+k)=c:=⟨_,rfl⟩
    have HC:=Xa hc
    rw[hc] at HNX hb256
    clear hb hc
    go_wp2_with fail
    refine HNX.out.mono ?_
    rintro e w1 ⟨rfl,hr1,hb1⟩
    have HR1:=Xa hr1
    have HB1:=Xa hb1
    clear hr1 hb1
    go_wp2_with fail
    refine (Xjk c hb256 w1).mono ?_
    rintro e w2 ⟨rfl,⟨d,hd,rfl⟩|⟨hd,rfl⟩⟩
    ·have hd16:=Xl8 hd
     have HD:=Xa hd
     clear hd
     go_wp2_with fail
     go_roundw
     case rel=>exact ⟨k+1,16 *v+d,by omega,by go_num,by go_num,Xhc HV.out (by rw[HC.out];exact HD.out),by omega,HR1.out,HBT.out.trans HB1.out⟩
     case measure=>simp[intOf];omega
    ·have HD:=Xa hd
     clear hd
     unfold gup
     go_wp2_with fail
     exact ⟨rfl, .inr ⟨Xen (Xhd HV.out (by rw[HC.out];exact HD.out) hlt),rfl⟩,HBT.out.trans HB1.out⟩
   ·have hqe:p+k=s.size:=by omega
    have HNX:=Xa (Xdq (w:=wr) (by have:=HS.out.br;rw[hqe] at this;exact this) hs)
    clear hqe
    go_wp2_with fail
    refine HNX.out.mono ?_
    rintro e w1 ⟨rfl,_,hb1⟩
    have HB1:=Xa hb1
    clear hb1
    unfold gup
    go_wp2_with fail
    exact ⟨rfl, .inr ⟨Xd6 (by rw[HLN.out];omega),rfl⟩,HBT.out.trans HB1.out⟩
  ·obtain rfl:k=4:=by omega
   by_cases hbig:127<v
   ·have hbig':(127:Int)<(v:Int):=by omega
    go_wp2_with fail
    exact ⟨rfl, .inr ⟨Xhe HV.out hbig,rfl⟩,HBT.out⟩
   ·have hbig':¬(127:Int)<(v:Int):=by omega
    have hw:IntKind.u8.wrap (v:Int)=(v:Int):=Xgr (by omega) (by omega)
    go_wp2_with fail
    go_ret
    exact ⟨.inl ⟨v,p+4,Xdc (by rw[HLN.out];exact hpk) HV.out (by omega),rfl,HS.out⟩,HBT.out⟩

set_option maxRecDepth 100000 in
theorem Xkl {X:Nat→Option Value} {rb p:Nat} {s:ByteArray} {w:World} (h:SfAt X w rb s p) (hs:s.size≤1048576):
  Calls Tryz.prog 178 #[.pointer (some ⟨rb,0,none⟩)] w fun e w'=>((∃b q,Z1 s.data.toList p=some (b,q)∧e= .returned (.int .u8 (b:Int))∧SfAt X w' rb s q)∨(Z1 s.data.toList p=none∧e=gup))∧But rb w w':=by
 have H:=Xa h
 have hps:=h.br.le
 have HLN:=Xa (Xm s)
 clear h
 by_cases hq:p<s.size
 ·have HQL:Hid (p<s.data.toList.length):=by rw[Hid,HLN.out];exact hq
  have HNX:=Xa (Xa4 H.out hq hs)
  rw[byS hq] at HNX
  have hb256:=Jt s.data.toList p
  obtain ⟨c,hc⟩:∃c,Xh s.data.toList p=c:=⟨_,rfl⟩
  have HC:=Xa hc
  rw[hc] at HNX hb256
  clear hc
  by_cases c1:c=47
  ·subst c1
   have HE:Hid (Z1 s.data.toList p=some (47,p+1)):=Xek HQL.out (by rw[HC.out];rfl)
   go_enter Tryz.func178,Tryz.ntmps178
   go_wp2_with fail
   refine HNX.out.mono ?_
   rintro e w1 ⟨rfl,hr1,hb1⟩
   have HR1:=Xa hr1
   have HB1:=Xa hb1
   clear hr1 hb1
   go_wp2_with fail
   go_ret
   exact ⟨.inl ⟨47,p+1,HE.out,rfl,HR1.out⟩,HB1.out⟩
  ·have q1:((c:Int)==47)=false:=by simp;omega
   have q1':¬(c:Int)=47:=by omega
   by_cases c2:c=117
   ·subst c2
    have HE:Hid (Z1 s.data.toList p=Ku s.data.toList (p+1)):=Xg5 HQL.out HC.out
    go_enter Tryz.func178,Tryz.ntmps178
    go_wp2_with fail
    refine HNX.out.mono ?_
    rintro e w1 ⟨rfl,hr1,hb1⟩
    have HR1:=Xa hr1
    have HB1:=Xa hb1
    clear hr1 hb1
    go_wp2_with fail
    refine (Xo2 HR1.out hs).mono ?_
    rintro e w2 ⟨⟨b,z,hcd,rfl,hr2⟩|⟨hcd,rfl⟩,hb2⟩
    ·have HCD:=Xa hcd
     have HR2:=Xa hr2
     have HB2:=Xa (HB1.out.trans hb2)
     clear hcd hr2 hb2
     go_wp2_with fail
     go_ret
     exact ⟨.inl ⟨b,z,by rw[HE.out];exact HCD.out,rfl,HR2.out⟩,HB2.out⟩
    ·have HCD:=Xa hcd
     have HB2:=Xa (HB1.out.trans hb2)
     clear hcd hb2
     unfold gup
     go_wp2_with fail
     exact ⟨rfl, .inr ⟨by rw[HE.out];exact HCD.out,rfl⟩,HB2.out⟩
   ·have q2:((c:Int)==117)=false:=by simp;omega
    have q2':¬(c:Int)=117:=by omega
    have HBI:Hid (∀w,Calls Tryz.prog 109 #[.string ⟨#[34,92,98,116,110,102,114]⟩, .int .u8 (c:Int)] w fun e w'=>e= .returned (.int .i64 (Go.Lib.indexByte [34,92,98,116,110,102,114] (UInt8.ofNat c)))∧w'=w):=fun w=>by
     have:=Vl ⟨#[34,92,98,116,110,102,114]⟩ (UInt8.ofNat c) w
     rw[UInt8.toNat_ofNat',Nat.mod_eq_of_lt (by omega)] at this
     exact this
    rcases Xwr ⟨c,hb256⟩ c1 with ⟨e1,e2⟩|⟨i,e1,e2⟩
    ·have HE:Hid (Z1 s.data.toList p=none):=Xg6 HQL.out (by rw[HC.out];exact e1) (by rw[HC.out];exact c2)
     simp only at e2
     rw[e2] at HBI
     clear e1 e2
     go_enter Tryz.func178,Tryz.ntmps178
     go_wp2_with fail
     refine HNX.out.mono ?_
     rintro e w1 ⟨rfl,hr1,hb1⟩
     have HB1:=Xa hb1
     clear hr1 hb1
     go_wp2_with fail
     refine (HBI.out _).mono ?_
     rintro e w2 ⟨rfl,rfl⟩
     go_wp2_with fail
     exact ⟨rfl, .inr ⟨HE.out,rfl⟩,HB1.out⟩
    ·obtain ⟨i,hi7⟩:=i
     dsimp only at e1 e2
     have HE:Hid (Z1 s.data.toList p=some (([34,92,8,9,10,12,13]:List Nat).getD i 0,p+1)):=Xek HQL.out (by rw[HC.out];exact e2)
     rw[e1] at HBI
     have hi0:¬(i:Int)<0:=by omega
     have hsz:(ByteArray.mk #[34,92,8,9,10,12,13]).size=7:=rfl
     have HAT:=Xa (Xws i hi7 (by rw[hsz];exact hi7))
     have hi7':(i:Int)<7:=by omega
     clear e1 e2
     go_enter Tryz.func178,Tryz.ntmps178
     go_wp2_with fail
     refine HNX.out.mono ?_
     rintro e w1 ⟨rfl,hr1,hb1⟩
     have HR1:=Xa hr1
     have HB1:=Xa hb1
     clear hr1 hb1
     go_wp2_with fail
     refine (HBI.out _).mono ?_
     rintro e w2 ⟨rfl,rfl⟩
     go_wp2_with fail
     go_ret
     refine ⟨.inl ⟨_,p+1,HE.out, ?_,HR1.out⟩,HB1.out⟩
     rw[←HAT.out]
     rfl
 ·obtain rfl:p=s.size:=by omega
  have HE:Hid (Z1 s.data.toList s.size=none):=Xg4 (by rw[HLN.out];omega)
  have HNX:=Xa (Xdq H.out.br hs)
  go_enter Tryz.func178,Tryz.ntmps178
  go_wp2_with fail
  refine HNX.out.mono ?_
  rintro e w1 ⟨rfl,_,hb1⟩
  have HB1:=Xa hb1
  clear hb1
  unfold gup
  go_wp2_with fail
  exact ⟨rfl, .inr ⟨HE.out,rfl⟩,HB1.out⟩




def X0e (t:ByteArray) (w:World) (e:Ending) (w':World):Prop:=∃n ok,e= .returned (.tuple #[.int .i64 n, .bool ok])∧w'=w∧((Q6 t.data.toList=some n∧ok=true)∨(Q6 t.data.toList=none∧ok=false))
set_option maxRecDepth 100000 in
theorem Xo3 (t:ByteArray) (ht:t.size≤1048576) (w:World):
  Calls Tryz.prog 157 #[.string t] w (X0e t w):=by
 have HLT:=Xa (Xm t)
 have HB0:Hid (∀h:0<t.size,Xh t.data.toList 0=(t[0]'h).toNat):=fun h=>(byS h).symm
 by_cases hneg:1<t.size∧Xh t.data.toList 0=45
 ·obtain ⟨h1,h45⟩:=hneg
  have h0:0<t.size:=by omega
  have HIT:Hid (Q6 t.data.toList=U9 true (t.data.toList.drop 1)):=Xjr (by unfold Wa;rw[HLT.out];simp;exact ⟨h1,h45⟩)
  have HC:=Xa (HB0.out h0)
  obtain ⟨y0,hy0⟩:∃y,t[0]=y:=⟨_,rfl⟩
  rw[hy0] at HC
  have hy45:((y0.toNat:Nat):Int)=45:=by rw[←HC.out,h45];rfl
  obtain ⟨U,hU⟩:∃U,t.extract 1 t.size=U:=⟨_,rfl⟩
  have HUD:Hid (t.data.toList.drop 1=U.data.toList):=by
   rw[Hid,←hU,Xmq,Xz,List.take_of_length_le (by rw[List.length_drop,HLT.out];exact Nat.le_refl _)]
  have hUs:U.size=t.size-1:=by rw[←Xm U,←HUD.out,List.length_drop,HLT.out]
  rw[HUD.out] at HIT
  have hU1:1≤U.size:=by omega
  have HUS:=Xa hUs
  have h1':(1:Int)<(t.size:Int):=by omega
  have q1:¬(U.size:Int)<1:=by omega
  clear hUs HUD h45 HC
  have HUB:=Xa (byS (s:=U) (p:=0) (by omega))
  obtain ⟨z,hz⟩:∃z,U[0]=z:=⟨_,rfl⟩
  rw[hz] at HUB
  go_enter Tryz.func157,Tryz.ntmps157
  have HNO:Hid (U.data.toList.length<1∨16<U.data.toList.length∨(Xh U.data.toList 0=48∧(1<U.data.toList.length∨true=true))∨¬Uw U.data.toList∨1000000000000000<X3 U.data.toList 0 U.data.toList.length→Q6 t.data.toList=none):=fun h=>by rw[HIT.out];exact Xby h
  by_cases h16:16<U.size
  ·have h16':(16:Int)<(U.size:Int):=by omega
   have HN1:=Xa (HNO.out (.inr (.inl (by rw[Xm];exact h16))))
   go_wp2_with fail
   go_ret2
   exact ⟨0,false,rfl,rfl, .inr ⟨HN1.out,rfl⟩⟩
  have h16':¬(16:Int)<(U.size:Int):=by omega
  by_cases h48:z.toNat=48
  ·have h48':((z.toNat:Nat):Int)=48:=by omega
   have HN1:=Xa (HNO.out (.inr (.inr (.inl ⟨by rw[←HUB.out];exact h48, .inr rfl⟩))))
   by_cases hU2:1<U.size
   ·have hU2':(1:Int)<(U.size:Int):=by omega
    go_wp2_with fail
    go_ret2
    exact ⟨0,false,rfl,rfl, .inr ⟨HN1.out,rfl⟩⟩
   ·have hU2':¬(1:Int)<(U.size:Int):=by omega
    go_wp2_with fail
    go_ret2
    exact ⟨0,false,rfl,rfl, .inr ⟨HN1.out,rfl⟩⟩
  have h48':¬((z.toNat:Nat):Int)=48:=by omega
  have HYES:Hid ((∀j,j<U.size→Zn (Xh U.data.toList j)=true)→X3 U.data.toList 0 U.size≤1000000000000000→Q6 t.data.toList=some (-((X3 U.data.toList 0 U.size:Nat):Int))):=fun hd hv=>by
   rw[HIT.out,Xcf,Xm]
   ·rfl
   ·rw[Xm]
    rintro (h|h|⟨h,_⟩|h|h)
    ·omega
    ·omega
    ·rw[←HUB.out] at h;omega
    ·exact h (fun j hj=>hd j (by rw[←Xm];exact hj))
    ·omega
  clear HUB HUS HIT
  go_wp2_with fail
  go_loop [5,6] (fun n i=>∃k:Nat,k≤U.size∧i= .int .i64 k∧n= .int .i64 (X3 U.data.toList 0 k:Nat)∧Hid (∀j,j<k→Zn (Xh U.data.toList j)=true)) (fun _ i=>U.size-(intOf i).toNat)
  case atStart=>exact ⟨0,Nat.zero_le _,rfl,rfl,fun j hj=>by omega⟩
  case round=>
   obtain ⟨k,hk,rfl,rfl,HD⟩:=hrel
   have hv:X3 U.data.toList 0 k<10000000000000000:=by
    have h1:=Xjs (L:=U.data.toList) (q:=0) (k:=k) (fun j hj=>by rw[Nat.zero_add];exact HD.out j hj)
    have h2:10^k≤10^16:=Nat.pow_le_pow_right (by decide) (by omega)
    have h3:(10^16:Nat)=10000000000000000:=by decide
    omega
   have HNX:Hid (X3 U.data.toList 0 (k+1)=10 *X3 U.data.toList 0 k+(Xh U.data.toList (0+k)-48)):=rfl
   obtain ⟨V,hV⟩:∃V,X3 U.data.toList 0 k=V:=⟨_,rfl⟩
   have HVV:=Xa hV
   rw[hV] at hv HNX
   rw[hV]
   clear hV
   by_cases hlt:k<U.size
   ·have hlt':(k:Int)<(U.size:Int):=by omega
    have HY:=Xa (byS hlt)
    obtain ⟨y,hy⟩:∃y,U[k]=y:=⟨_,rfl⟩
    rw[hy] at HY
    have hyl:y.toNat<256:=y.toNat_lt
    by_cases g1:y.toNat<48
    ·have g1':(y.toNat:Int)<48:=by omega
     have HNO:=Xa (HNO.out (.inr (.inr (.inr (.inl (fun hd=>by
      have:=hd k (by rw[Xm];exact hlt)
      rw[←HY.out] at this
      unfold Zn at this
      simp at this
      omega))))))
     go_wp2_with fail
     go_ret2
     exact ⟨0,false,rfl,rfl, .inr ⟨HNO.out,rfl⟩⟩
    have g1':¬(y.toNat:Int)<48:=by omega
    by_cases g2:57<y.toNat
    ·have g2':(57:Int)<(y.toNat:Int):=by omega
     have HNO:=Xa (HNO.out (.inr (.inr (.inr (.inl (fun hd=>by
      have:=hd k (by rw[Xm];exact hlt)
      rw[←HY.out] at this
      unfold Zn at this
      simp at this
      omega))))))
     go_wp2_with fail
     go_ret2
     exact ⟨0,false,rfl,rfl, .inr ⟨HNO.out,rfl⟩⟩
    have g2':¬(57:Int)<(y.toNat:Int):=by omega
    have HD2:Hid (∀j,j<k+1→Zn (Xh U.data.toList j)=true):=fun j hj=>by
     by_cases e:j=k
     ·subst e;rw[←HY.out];unfold Zn;simp;omega
     ·exact HD.out j (by omega)
    go_wp2_with fail
    refine ⟨⟨k+1,by omega,by go_num, ?_,HD2⟩,by simp[intOf];omega⟩
    rw[HNX.out,Nat.zero_add,←HY.out]
    congr 1
    omega
   ·obtain rfl:k=U.size:=by omega
    have hlt':¬(U.size:Int)<(U.size:Int):=by omega
    have HIN:=Xa (Vg (-(V:Int)) (-1000000000000000) 1000000000000000 w)
    go_wp2_with fail
    refine HIN.out.mono ?_
    rintro e w1 ⟨rfl,rfl⟩
    go_wp2_with fail
    go_ret2
    refine ⟨_,_,rfl,rfl, ?_⟩
    by_cases hb:V≤1000000000000000
    ·refine .inl ⟨?_,by unfold inB;simp;omega⟩
     rw[HYES.out HD.out (by rw[HVV.out];omega),HVV.out]
    ·exact .inr ⟨HNO.out (.inr (.inr (.inr (.inr (by rw[Xm,HVV.out];omega))))),by unfold inB;simp;omega⟩
 ·have hng : Wa t.data.toList = false := by unfold Wa; rw [HLT.out]; simpa using hneg
  have HIT:Hid (Q6 t.data.toList=U9 false t.data.toList):=Xeu hng
  have HNG:=Xa hneg
  clear hng hneg
  go_enter Tryz.func157,Tryz.ntmps157
  have HNO:Hid (t.data.toList.length<1∨16<t.data.toList.length∨(Xh t.data.toList 0=48∧(1<t.data.toList.length∨false=true))∨¬Uw t.data.toList∨1000000000000000<X3 t.data.toList 0 t.data.toList.length→Q6 t.data.toList=none):=fun h=>by rw[HIT.out];exact Xby h
  by_cases hU0:t.size<1
  ·have hU0':(t.size:Int)<1:=by omega
   have hm:¬(1:Int)<(t.size:Int):=by omega
   have HN1:=Xa (HNO.out (.inl (by rw[Xm];exact hU0)))
   go_wp2_with fail
   go_ret2
   exact ⟨0,false,rfl,rfl, .inr ⟨HN1.out,rfl⟩⟩
  have hU0':¬(t.size:Int)<1:=by omega
  have h0:0<t.size:=by omega
  have HC:=Xa (HB0.out h0)
  obtain ⟨z,hz⟩:∃z,t[0]=z:=⟨_,rfl⟩
  rw[hz] at HC
  by_cases hU2:1<t.size
  focus
   have hU2':(1:Int)<(t.size:Int):=by omega
   have h45:¬((z.toNat:Nat):Int)=45:=fun e=>HNG.out ⟨hU2,by rw[HC.out];omega⟩
   by_cases h16:16<t.size
   focus
    have h16':(16:Int)<(t.size:Int):=by omega
    have HN1:=Xa (HNO.out (.inr (.inl (by rw[Xm];exact h16))))
    go_wp2_with fail
    go_ret2
    exact ⟨0,false,rfl,rfl, .inr ⟨HN1.out,rfl⟩⟩
   have h16':¬(16:Int)<(t.size:Int):=by omega
   by_cases h48:z.toNat=48
   focus
    have h48':((z.toNat:Nat):Int)=48:=by omega
    have HN1:=Xa (HNO.out (.inr (.inr (.inl ⟨by rw[HC.out];exact h48, .inl (by rw[Xm];exact hU2)⟩))))
    clear h45
    go_wp2_with fail
    go_ret2
    exact ⟨0,false,rfl,rfl, .inr ⟨HN1.out,rfl⟩⟩
   have h48':¬((z.toNat:Nat):Int)=48:=by omega
   have HYES:Hid ((∀j,j<t.size→Zn (Xh t.data.toList j)=true)→X3 t.data.toList 0 t.size≤1000000000000000→Q6 t.data.toList=some ((X3 t.data.toList 0 t.size:Nat):Int)):=fun hd hv=>by
    rw[HIT.out,Xcf,Xm]
    ·rfl
    ·rw[Xm]
     rintro (h|h|⟨h,_⟩|h|h)
     ·omega
     ·omega
     ·rw[HC.out] at h;omega
     ·exact h (fun j hj=>hd j (by rw[←Xm];exact hj))
     ·omega
   clear HC HIT h48
   go_wp2_with fail
  rotate_left
  focus
   have hU2':¬(1:Int)<(t.size:Int):=by omega
   have h16':¬(16:Int)<(t.size:Int):=by omega
   have h16:¬16<t.size:=by omega
   have HYES:Hid ((∀j,j<t.size→Zn (Xh t.data.toList j)=true)→X3 t.data.toList 0 t.size≤1000000000000000→Q6 t.data.toList=some ((X3 t.data.toList 0 t.size:Nat):Int)):=fun hd hv=>by
    rw[HIT.out,Xcf,Xm]
    ·rfl
    ·rw[Xm]
     rintro (h|h|⟨_,h⟩|h|h)
     ·omega
     ·omega
     ·rcases h with h|h
      ·omega
      ·cases h
     ·exact h (fun j hj=>hd j (by rw[←Xm];exact hj))
     ·omega
   clear HC HIT
   go_wp2_with fail
  all_goals
   go_loop [5,6] (fun n i=>∃k:Nat,k≤t.size∧i= .int .i64 k∧n= .int .i64 (X3 t.data.toList 0 k:Nat)∧Hid (∀j,j<k→Zn (Xh t.data.toList j)=true)) (fun _ i=>t.size-(intOf i).toNat)
   case atStart=>exact ⟨0,Nat.zero_le _,rfl,rfl,fun j hj=>by omega⟩
   case round=>
    obtain ⟨k,hk,rfl,rfl,HD⟩:=hrel
    have hv:X3 t.data.toList 0 k<10000000000000000:=by
     have h1:=Xjs (L:=t.data.toList) (q:=0) (k:=k) (fun j hj=>by rw[Nat.zero_add];exact HD.out j hj)
     have h2:10^k≤10^16:=Nat.pow_le_pow_right (by decide) (by omega)
     have h3:(10^16:Nat)=10000000000000000:=by decide
     omega
    have HNX:Hid (X3 t.data.toList 0 (k+1)=10 *X3 t.data.toList 0 k+(Xh t.data.toList (0+k)-48)):=rfl
    obtain ⟨V,hV⟩:∃V,X3 t.data.toList 0 k=V:=⟨_,rfl⟩
    have HVV:=Xa hV
    rw[hV] at hv HNX
    rw[hV]
    clear hV
    by_cases hlt:k<t.size
    ·have hlt':(k:Int)<(t.size:Int):=by omega
     have HY:=Xa (byS hlt)
     obtain ⟨y,hy⟩:∃y,t[k]=y:=⟨_,rfl⟩
     rw[hy] at HY
     have hyl:y.toNat<256:=y.toNat_lt
     by_cases g1:y.toNat<48
     ·have g1':(y.toNat:Int)<48:=by omega
      have HNO:=Xa (HNO.out (.inr (.inr (.inr (.inl (fun hd=>by
       have:=hd k (by rw[Xm];exact hlt)
       rw[←HY.out] at this
       unfold Zn at this
       simp at this
       omega))))))
      go_wp2_with fail
      go_ret2
      exact ⟨0,false,rfl,rfl, .inr ⟨HNO.out,rfl⟩⟩
     have g1':¬(y.toNat:Int)<48:=by omega
     by_cases g2:57<y.toNat
     ·have g2':(57:Int)<(y.toNat:Int):=by omega
      have HNO:=Xa (HNO.out (.inr (.inr (.inr (.inl (fun hd=>by
       have:=hd k (by rw[Xm];exact hlt)
       rw[←HY.out] at this
       unfold Zn at this
       simp at this
       omega))))))
      go_wp2_with fail
      go_ret2
      exact ⟨0,false,rfl,rfl, .inr ⟨HNO.out,rfl⟩⟩
     have g2':¬(57:Int)<(y.toNat:Int):=by omega
     have HD2:Hid (∀j,j<k+1→Zn (Xh t.data.toList j)=true):=fun j hj=>by
      by_cases e:j=k
      ·subst e;rw[←HY.out];unfold Zn;simp;omega
      ·exact HD.out j (by omega)
     go_wp2_with fail
     refine ⟨⟨k+1,by omega,by go_num, ?_,HD2⟩,by simp[intOf];omega⟩
     rw[HNX.out,Nat.zero_add,←HY.out]
     congr 1
     omega
    ·obtain rfl:k=t.size:=by omega
     have hlt':¬(t.size:Int)<(t.size:Int):=by omega
     have HIN:=Xa (Vg (V:Int) (-1000000000000000) 1000000000000000 w)
     go_wp2_with fail
     refine HIN.out.mono ?_
     rintro e w1 ⟨rfl,rfl⟩
     go_wp2_with fail
     go_ret2
     refine ⟨_,_,rfl,rfl, ?_⟩
     by_cases hb:V≤1000000000000000
     ·refine .inl ⟨?_,by unfold inB;simp;omega⟩
      rw[HYES.out HD.out (by rw[HVV.out];omega),HVV.out]
     ·exact .inr ⟨HNO.out (.inr (.inr (.inr (.inr (by rw[Xm,HVV.out];omega))))),by unfold inB;simp;omega⟩
end Go.Proofs.YtehihemfepbmfaaGreatDoor
