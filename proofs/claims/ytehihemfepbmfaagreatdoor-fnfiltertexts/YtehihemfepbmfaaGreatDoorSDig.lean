import Derived.Test.YtehihemfepbmfaaGreatDoorProg
import Derived.Test.YtehihemfepbmfaaGreatDoorUneP
import Derived.Laws.IdiomStrings
import Derived.Below
import Derived.WideShapes
import Derived.WalkKit
import Derived.Lib.ItoaNum
import Derived.Deep.RegionWith
import Derived.Deep.QuietTactic
import Derived.BigQuiet
namespace Go.Proofs.YtehihemfepbmfaaGreatDoor
set_option linter.unusedSectionVars false
set_option maxHeartbeats 3200000
open Go.RowKit Go.WideShapes
set_option linter.unusedSimpArgs false
set_option linter.unusedVariables false
theorem Xew (x:UInt8) (w:World):(convert 22 9 (.slice (some ⟨w.heap.size,0,none⟩) 1 1)).run Tryz.prog (w.alloc (.cells #[.int .u8 (x.toNat:Int)] 5))= .ok (.string ⟨#[x]⟩) (w.alloc (.cells #[.int .u8 (x.toNat:Int)] 5)):=by
 have:=run_convert_bytes_back (P:=Tryz.prog) (w.alloc (.cells #[.int .u8 (x.toNat:Int)] 5)) 22 9 5 ⟨w.heap.size,0,none⟩ 1 [x] Tryz.underlying22 Tryz.underlying5 Tryz.underlying9 (fun j hj=>by
  obtain rfl:j=0:=by simpa using hj
  rw[add_plain,Nat.zero_add]
  simp)
 exact this
set_option maxRecDepth 100000 in
theorem Xrg (n:Nat) (h:n<16) (w:World):Calls Tryz.prog 132 #[.int .u8 (n:Int)] w fun e w'=>e= .returned (.string ⟨#[Vh n]⟩)∧Below w.heap.size w w':=by
 go_enter Tryz.func132,Tryz.ntmps132
 have hc:=Xew
 have hh:Vh n=(ByteArray.mk #[48,49,50,51,52,53,54,55,56,57,97,98,99,100,101,102])[n]'h:=by
  show hexS.getD n 0=hexS[n]'h
  rw[List.getD,List.getElem?_eq_getElem (show n<hexS.length from h)];rfl
 have H:=Xa hh
 clear hh
 go_wp2
 go_ret
 exact ⟨Z6 (by rw[H.out]),(Below.refl _ _).alloc (Nat.le_refl _) _⟩
theorem Xrh (x:Int) (w:World) (h0:0≤x) (h1:x<16):Calls Tryz.prog 132 #[.int .u8 x] w fun e w'=>e= .returned (.string (txt [Vh x.toNat]))∧Below w.heap.size w w':=by
 obtain ⟨n,rfl⟩:∃n:Nat,x=n:=⟨x.toNat,by omega⟩
 exact Xrg n (by omega) w
theorem Xxm (x:UInt8):(txt [x]).size=1:=Xo [x]

open Go.RowKit Go.WideShapes
theorem Xlz (u:Nat):(Lib.decDigits u).length≤u+1:=by
 induction u using Nat.strongRecOn with
 | ind u ih =>
  rw[Lib.decDigits]
  split
  ·simp
  ·rw[List.length_append]
   have:=ih (u/10) (by omega)
   simp
   omega
theorem Xsr {u:Nat} (h:10≤u):Lib.decDigits u=Lib.decDigits (u/10)++ [UInt8.ofNat (48+u%10)]:=by
 rw[Lib.decDigits,dif_neg (by omega)]
theorem Xwc {d:Nat} (h:d<10):(((UInt8.ofNat (48+d)).toNat:Nat):Int)=48+(d:Int):=by
 rw[UInt8.toNat_ofNat_of_lt' (by show 48+d<256;omega)]
 omega
theorem Xl0 {d:Int} (h0:0≤d) (h1:d<10) (w:World):(convert 22 9 (.slice (some ⟨w.heap.size,0,none⟩) 1 1)).run Tryz.prog (w.alloc (.cells #[.int .u8 (48+d)] 5))= .ok (.string (txt [UInt8.ofNat (48+d.toNat)])) (w.alloc (.cells #[.int .u8 (48+d)] 5)):=by
 have:=run_convert_bytes_back (P:=Tryz.prog) (w.alloc (.cells #[.int .u8 (48+d)] 5)) 22 9 5 ⟨w.heap.size,0,none⟩ 1 [UInt8.ofNat (48+d.toNat)] Tryz.underlying22 Tryz.underlying5 Tryz.underlying9 (fun j hj=>by
  obtain rfl:j=0:=by simpa using hj
  rw[add_plain,Nat.zero_add]
  have e:=Xwc (d:=d.toNat) (by omega)
  rw[Int.toNat_of_nonneg h0] at e
  simp only[List.getElem_cons_zero,e]
  simp)
 exact this
set_option maxRecDepth 100000 in
theorem Xgv (u:Nat) (w:World) (hu:u≤4000000000000000000):Calls Tryz.prog 62 #[.int .i64 u] w fun e w'=>e= .returned (.string (txt (Lib.decDigits u)))∧Below w.heap.size w w':=by
 have hn0:¬(u:Int)<0:=by omega
 go_enter Tryz.func62,Tryz.ntmps62
 go_wp2_with fail
 go_loopw [0,3] (fun v o wr=>∃(m:Nat) (l:List UInt8),m≤u∧v= .int .i64 m∧o= .string (txt l)∧Lib.decDigits u=Lib.decDigits m++l∧Below w.heap.size w wr) (fun v _ _=>(intOf v).toNat)
 case atStart=>exact ⟨u,[],Nat.le_refl _,rfl,rfl,by simp,Below.refl _ _⟩
 case round=>
  obtain ⟨m,l,hm,rfl,rfl,hd,hb⟩:=hrel
  have HD:=Xa hd
  have HB:=Xa hb
  have zb:=hb.size
  have hll:l.length≤4000000000000000001:=by
   have h1:=Xlz u
   have h2:=congrArg List.length hd
   rw[List.length_append] at h2
   omega
  have hz:(txt l).size≤4000000000000000001:=by rw[Xo];exact hll
  have hz1:∀x,(txt [x]).size=1:=fun x=>Xo [x]
  clear hd hb hll
  by_cases h10:10≤m
  ·have h10':10≤(m:Int):=by omega
   have hc:=Xl0 (d:=(m:Int)%10) (by omega) (by omega) wr
   have e1:((m:Int)%10).toNat=m%10:=by omega
   rw[e1] at hc
   have HS:=Xa (Xsr h10)
   obtain ⟨y,hy⟩:∃y,UInt8.ofNat (48+m%10)=y:=⟨_,rfl⟩
   rw[hy] at hc HS
   clear hy e1
   have HQ:Hid (Value.int .i64 ((m:Int)/10)= .int .i64 ((m/10:Nat):Int)):=by rw[Hid];congr 1
   go_wp2_with fail
   refine ⟨⟨m/10,y::l,by omega,HQ.out,Kf (Yo [y] l),by rw[HD.out,HS.out,List.append_assoc];rfl,HB.out.alloc zb _⟩,by simp[intOf];omega⟩
  ·have h10':¬10≤(m:Int):=by omega
   have hc:=Xl0 (d:=(m:Int)) (by omega) (by omega) wr
   rw[Int.toNat_natCast] at hc
   have HS:=Xa (Lib.decDigits_one (i:=m) (by omega))
   obtain ⟨y,hy⟩:∃y,UInt8.ofNat (48+m)=y:=⟨_,rfl⟩
   rw[hy] at hc HS
   clear hy
   go_wp2_with fail
   go_ret
   exact ⟨by rw[HD.out,HS.out];exact Z6 (Yo _ _),HB.out.alloc zb _⟩
set_option maxRecDepth 100000 in
theorem Uc (n:Int) (w:World) (h0: -4000000000000000000≤n) (h1:n≤4000000000000000000):Calls Tryz.prog 62 #[.int .i64 n] w fun e w'=>e= .returned (.string (txt (Lib.itoa n)))∧Below w.heap.size w w':=by
 by_cases h:n<0
 ·have C:=Xa (fun w=>Xgv n.natAbs w (by omega))
  have e:((n.natAbs:Nat):Int)= -n:=by omega
  have hz:(txt (Lib.decDigits n.natAbs)).size≤4000000000000000001:=by rw[Xo];have:=Xlz n.natAbs;omega
  have HI:=Xa (show Lib.itoa n=45::Lib.decDigits n.natAbs by unfold Lib.itoa;rw[if_pos h])
  rw[e] at C
  clear e
  obtain ⟨D,hD⟩:∃D,Lib.decDigits n.natAbs=D:=⟨_,rfl⟩
  rw[hD] at C hz HI
  clear hD
  go_enter Tryz.func62,Tryz.ntmps62
  go_wp2_with (go_at_call 62;refine (C.out _).mono ?_;rintro e w1 ⟨rfl,hb1⟩)
  go_ret
  exact ⟨by rw[HI.out];exact Z6 (Yo [45] D),hb1⟩
 ·have e:Lib.itoa n=Lib.decDigits n.toNat:=by unfold Lib.itoa;rw[if_neg h]
  have e2:((n.toNat:Nat):Int)=n:=by omega
  have:=Xgv n.toNat w (by omega)
  rw[e2] at this
  rw[e]
  exact this

open Go.RowKit Go.WideShapes
theorem Xm0 {w wr w1 w2:World} (h:Below w.heap.size w wr) (h1:Below wr.heap.size wr w1) (h2:Below w1.heap.size w1 w2):Below w.heap.size w w2:=
 (h.trans (h1.mono h.size)).trans (h2.mono (h.trans (h1.mono h.size)).size)
theorem Xiv (o:List UInt8) (c:UInt8):txt o++⟨#[92,117,48,48]⟩++txt [Vh ((c.toNat:Int)/16).toNat]++txt [Vh ((c.toNat:Int)%16).toNat]=txt (o++ [92,117,48,48,Vh (c.toNat/16),Vh (c.toNat%16)]):=by
 have e1:((c.toNat:Int)/16).toNat=c.toNat/16:=by omega
 have e2:((c.toNat:Int)%16).toNat=c.toNat%16:=by omega
 rw[e1,e2,Gj,Yo,Yo]
 simp
set_option maxRecDepth 100000 in
theorem Xsz (s:ByteArray) (w:World) (hs:s.size≤16777216):Calls Tryz.prog 97 #[.string s] w fun e w'=>e= .returned (.string (txt (Gp s)))∧Below w.heap.size w w':=by
 go_enter Tryz.func97,Tryz.ntmps97
 go_wp2_with fail
 go_loopw [3,4] (fun o i wr=>∃k:Nat,k≤s.size∧i= .int .i64 k∧o= .string (txt (34::quo (s.data.toList.take k)))∧Below w.heap.size w wr) (fun _ i _=>s.size-(intOf i).toNat)
 case atStart=>exact ⟨0,Nat.zero_le _,rfl,rfl,Below.refl _ _⟩
 case round =>
  obtain ⟨k,hk,rfl,rfl,hbel⟩:=hrel
  have HB:=Xa hbel
  clear hbel
  by_cases hlt:k<s.size
  ·have hl:=Xdl s.data.toList k
   have HS:Hid (34::quo (s.data.toList.take (k+1))=(34::quo (s.data.toList.take k))++Ks (s.data.toList[k]'(by rw[Xm];exact hlt))):=by rw[Hid,Xj9 s.data.toList k (by rw[Xm];exact hlt)];rfl
   have hl':(34::quo (s.data.toList.take k)).length≤6 *s.data.toList.length+1:=by rw[List.length_cons];omega
   obtain ⟨o,ho⟩:∃o,34::quo (s.data.toList.take k)=o:=⟨_,rfl⟩
   rw[ho] at HS hl'⊢
   clear ho hl
   have hz:(txt o).size≤134217728:=by rw[Xo];rw[Xm] at hl';omega
   rw[Xor hlt] at HS
   obtain ⟨c,hc⟩:∃c,s[k]=c:=⟨_,rfl⟩
   rw[hc] at HS
   have hn:c.toNat<256:=c.toNat_lt
   have hsl:=Xd1 (P:=Tryz.prog) (t:=9) Tryz.underlying9 hlt hc
   by_cases h34:c=34
   ·subst h34
    have hz1:=Xo [(34:UInt8)]
    go_wp2_with fail
    refine ⟨⟨k+1,by omega,by go_num, ?_,HB.out⟩,by simp[intOf];omega⟩
    rw[HS.out];exact Kf (by rw[Gj,Yo];simp[Ks])
   have n34:¬(c.toNat:Int)=34:=Wi h34
   have b34:((c.toNat:Int)==34)=false:=by simpa using n34
   by_cases h92:c=92
   ·subst h92
    have hz1:=Xo [(92:UInt8)]
    go_wp2_with fail
    refine ⟨⟨k+1,by omega,by go_num, ?_,HB.out⟩,by simp[intOf];omega⟩
    rw[HS.out];exact Kf (by rw[Gj,Yo];simp[Ks])
   have n92:¬(c.toNat:Int)=92:=Wi h92
   have b92:((c.toNat:Int)==92)=false:=by simpa using n92
   by_cases h8:c=8
   ·subst h8
    go_wp2_with fail
    refine ⟨⟨k+1,by omega,by go_num, ?_,HB.out⟩,by simp[intOf];omega⟩
    rw[HS.out];exact Kf (Gj _ _)
   have n8:¬(c.toNat:Int)=8:=Wi h8
   have b8:((c.toNat:Int)==8)=false:=by simpa using n8
   by_cases h9:c=9
   ·subst h9
    go_wp2_with fail
    refine ⟨⟨k+1,by omega,by go_num, ?_,HB.out⟩,by simp[intOf];omega⟩
    rw[HS.out];exact Kf (Gj _ _)
   have n9:¬(c.toNat:Int)=9:=Wi h9
   have b9:((c.toNat:Int)==9)=false:=by simpa using n9
   by_cases h10:c=10
   ·subst h10
    go_wp2_with fail
    refine ⟨⟨k+1,by omega,by go_num, ?_,HB.out⟩,by simp[intOf];omega⟩
    rw[HS.out];exact Kf (Gj _ _)
   have n10:¬(c.toNat:Int)=10:=Wi h10
   have b10:((c.toNat:Int)==10)=false:=by simpa using n10
   by_cases h12:c=12
   ·subst h12
    go_wp2_with fail
    refine ⟨⟨k+1,by omega,by go_num, ?_,HB.out⟩,by simp[intOf];omega⟩
    rw[HS.out];exact Kf (Gj _ _)
   have n12:¬(c.toNat:Int)=12:=Wi h12
   have b12:((c.toNat:Int)==12)=false:=by simpa using n12
   by_cases h13:c=13
   ·subst h13
    go_wp2_with fail
    refine ⟨⟨k+1,by omega,by go_num, ?_,HB.out⟩,by simp[intOf];omega⟩
    rw[HS.out];exact Kf (Gj _ _)
   have n13:¬(c.toNat:Int)=13:=Wi h13
   have b13:((c.toNat:Int)==13)=false:=by simpa using n13
   by_cases hp:c<32∨c=127
   ·have HE := Xa (show Ks c = [92, 117, 48, 48, Vh (c.toNat / 16), Vh (c.toNat % 16)] by simp only [Ks, h34, h92, h8, h9, h10, h12, h13, hp, if_false, if_true])
    have p1:((c.toNat:Int)<32)∨(c.toNat:Int)=127:=by
     rcases hp with h|h
     ·exact .inl (by have:c.toNat<32:=UInt8.lt_iff_toNat_lt.1 h;omega)
     ·exact .inr (by subst h;rfl)
    clear h34 h92 h8 h9 h10 h12 h13 hp
    rcases p1 with p1|p1
    all_goals (
     first|(have b127:((c.toNat:Int)==127)=true:=by simpa using p1)|skip
     have hz1:=Xxm
     have hw1:=Xr1 c
     have hw2:=Xr2 c
     have q2:¬9223372036854775807<(txt o).size+4:=by omega
     have q3:¬9223372036854775807<(txt o).size+4+1:=by omega
     have q4:¬9223372036854775807<(txt o).size+4+1+1:=by omega
     have r3:¬9223372036854775807<(txt o).size+5:=by omega
     have r4:¬9223372036854775807<(txt o).size+6:=by omega
     go_wp2_with (go_at_call 132;refine (Xrh _ _ (by omega) (by omega)).mono ?_;rintro e w' ⟨rfl,hb⟩)
     refine ⟨⟨k+1,by omega,by go_num, ?_,Xm0 HB.out (by assumption) (by assumption)⟩,by simp[intOf];omega⟩
     rw[HS.out,HE.out]
     first
      |exact Kf (Xiv o c)
      | (have h127 : c = 127 := UInt8.toNat_inj.1 (by show c.toNat = 127; omega)
         rw[h127]
         exact Kf (Xiv o 127)))
   ·have HE:=Xa (show Ks c= [c] by simp only[Ks,h34,h92,h8,h9,h10,h12,h13,hp,if_false])
    have p1:¬(c.toNat:Int)<32:=fun h=>hp (.inl (UInt8.lt_iff_toNat_lt.2 (by show c.toNat<32;omega)))
    have p2:¬(c.toNat:Int)=127:=Wi (fun h=>hp (.inr h))
    have b127:((c.toNat:Int)==127)=false:=by simpa using p2
    have hz1:=Xo [c]
    clear h34 h92 h8 h9 h10 h12 h13 hp
    go_wp2_with fail
    refine ⟨⟨k+1,by omega,by go_num, ?_,HB.out⟩,by simp[intOf];omega⟩
    rw[HS.out,HE.out];exact Kf (Yo _ _)
  ·obtain rfl:k=s.size:=by omega
   have hl:=Xdz s.data.toList
   have HL:=Xa (show s.data.toList.take s.size=s.data.toList by rw[←Xm,List.take_length])
   rw[HL.out]
   have hz:(txt (34::quo s.data.toList)).size≤134217728:=by rw[Xo,List.length_cons];rw[Xm] at hl;omega
   go_wp2_with fail
   go_ret
   exact ⟨Z6 (Gj _ _),HB.out⟩

open Go.RowKit Go.WideShapes

open Go.RowKit Go.WideShapes
def sml (j:Nat):UInt8:=hexS.getD j 0
def grtS:List UInt8:= [48,49,50,51,52,53,54,55,56,57,65,66,67,68,69,70]
def grt (j:Nat):UInt8:=grtS.getD j 0
theorem Xqp:∀(n:Fin 256) (j:Fin 16),(UInt8.ofNat n.val=sml j.val∨UInt8.ofNat n.val=grt j.val)→Gn (UInt8.ofNat n.val)=j.val:=by decide+kernel
theorem Xnr:∀n:Fin 256,(∀j:Fin 16,UInt8.ofNat n.val≠sml j.val∧UInt8.ofNat n.val≠grt j.val)→Gn (UInt8.ofNat n.val)= -1:=by decide+kernel
theorem Xjf {c:UInt8} {j:Nat} (hj:j<16) (h:c=sml j∨c=grt j):Gn c=j:=by
 have:=Xqp ⟨c.toNat,c.toNat_lt⟩ ⟨j,hj⟩
 simp only[UInt8.ofNat_toNat] at this
 exact this h
theorem Xqq {c:UInt8} (h:∀j,j<16→¬c=sml j∧¬c=grt j):Gn c= -1:=by
 have:=Xnr ⟨c.toNat,c.toNat_lt⟩
 simp only[UInt8.ofNat_toNat] at this
 exact this fun j=>h j.val j.isLt
theorem Xy2 {n:Nat} (h:n<16):(ByteArray.mk #[48,49,50,51,52,53,54,55,56,57,97,98,99,100,101,102])[n]'h=sml n:=by
 show hexS[n]'h=hexS.getD n 0
 rw[List.getD,List.getElem?_eq_getElem (show n<hexS.length from h)];rfl
theorem Xy3 {n:Nat} (h:n<16):(ByteArray.mk #[48,49,50,51,52,53,54,55,56,57,65,66,67,68,69,70])[n]'h=grt n:=by
 show grtS[n]'h=grtS.getD n 0
 rw[List.getD,List.getElem?_eq_getElem (show n<grtS.length from h)];rfl
theorem Xqr {c d:UInt8} (h:c=d):((c.toNat:Int)==(d.toNat:Int))=true:=by rw[h];simp
theorem Xqs {c d:UInt8} (h:¬c=d):((c.toNat:Int)==(d.toNat:Int))=false:=by simpa using Wi h
theorem Xgi {a b:Int} (h:a=b):Ending.returned (.int .i64 a)=Ending.returned (.int .i64 b):=by rw[h]
set_option maxRecDepth 100000 in
theorem Xk8 (c:UInt8) (w:World):Calls Tryz.prog 181 #[.int .u8 (c.toNat:Int)] w fun e w'=>e= .returned (.int .i64 (Gn c))∧w'=w:=by
 go_enter Tryz.func181,Tryz.ntmps181
 go_wp2_with fail
 go_loop [3] (fun i=>∃k:Nat,k≤16∧i= .int .i64 k∧Hid (∀j,j<k→¬c=sml j∧¬c=grt j)) (fun i=>16-(intOf i).toNat)
 case atStart=>exact ⟨0,by omega,rfl,fun j hj=>by omega⟩
 case round=>
  obtain ⟨k,hk,rfl,HM⟩:=hrel
  by_cases hlt:k<16
  ·have hlt':(k:Int)<16:=by omega
   have x1:=Xy2 hlt
   have x2:=Xy3 hlt
   by_cases h1:sml k=c
   ·have b1:=Xqr h1
    have HD:=Xa (Xjf hlt (.inl h1.symm))
    clear h1
    go_wp2_with fail
    go_ret
    exact ⟨Xgi HD.out.symm,rfl⟩
   have b1:=Xqs h1
   by_cases h2:grt k=c
   ·have b2:=Xqr h2
    have HD:=Xa (Xjf hlt (.inr h2.symm))
    clear h1 h2
    go_wp2_with fail
    go_ret
    exact ⟨Xgi HD.out.symm,rfl⟩
   have b2:=Xqs h2
   have HN:=Xa (show∀j,j<k+1→¬c=sml j∧¬c=grt j by
    intro j hj
    rcases Nat.lt_or_ge j k with h|h
    ·exact HM.out j h
    ·obtain rfl:j=k:=by omega
     exact ⟨fun e=>h1 e.symm,fun e=>h2 e.symm⟩)
   clear h1 h2
   go_wp2_with fail
   refine ⟨⟨k+1,by omega,by go_num,HN⟩,by simp[intOf];omega⟩
  ·obtain rfl:k=16:=by omega
   have HD:=Xa (Xqq HM.out)
   go_wp2_with fail
   go_ret
   exact ⟨Xgi HD.out.symm,rfl⟩
end Go.Proofs.YtehihemfepbmfaaGreatDoor
