import Derived.Test.YtehihemfepbmfaaGreatDoorIQuo
import Derived.Test.YtehihemfepbmfaaGreatDoorSJt
import Derived.Test.YtehihemfepbmfaaGreatDoorVAt
import Derived.Test.YtehihemfepbmfaaGreatDoorGBld
import Derived.Test.YtehihemfepbmfaaGreatDoorFmt
import Derived.Test.YtehihemfepbmfaaGreatDoorTw
import Derived.Test.YtehihemfepbmfaaGreatDoorUneP
namespace Go.Proofs.YtehihemfepbmfaaGreatDoor
set_option linter.unusedSectionVars false
set_option maxHeartbeats 6400000
open Go.RowKit
set_option linter.unusedSimpArgs false
set_option linter.unusedVariables false
def TabB (B : Nat) (w : World) : Prop := ∀ w', Below B w w' → Lib.TabIs Tryz.prog w' "internal/strconv.uint64pow10" .u64 Lib.pow10Tab
theorem TabB.next {B:Nat} {w w':World} (h:TabB B w) (hb:Below B w w'):TabB B w':=fun w2 h2=>h w2 (hb.trans h2)
theorem TabB.wide {B C:Nat} {w:World} (h:TabB B w) (hBC:B≤C):TabB C w:=fun w2 h2=>h w2 (h2.mono hBC)
theorem FB.lines {T:TypeId} {B b:Nat} {x:Bool} {l:List UInt8} {w:World} (h:FB T B b [.bool x] l w):w.cell? ⟨b,2,none⟩=some (.bool x):=by
 obtain ⟨_,p,v,_,hb,_⟩:=h
 exact cellAt hb rfl
theorem Wj (u v:Value):∀w,(callFunc 92 #[u,v]).run Tryz.prog w= .ok (.enter 92 #[u,v]) w:=fun w=>by kernel_rfl
theorem Xsa (u v:Value):∀w,(callFunc 196 #[u,v]).run Tryz.prog w= .ok (.enter 196 #[u,v]) w:=fun w=>by kernel_rfl
theorem Xil (u:Value):∀w,(callFunc 165 #[u]).run Tryz.prog w= .ok (.enter 165 #[u]) w:=fun w=>by kernel_rfl
theorem Xcs (d:Nat):Lib.repeatL [32,32] d=List.replicate (2 *d) 32:=by
 induction d with
 |zero=>rfl
 |succ d ih=>rw[Lib.repeatL,ih,show 2 *(d+1)=2 *d+1+1 by omega,List.replicate_succ,List.replicate_succ];rfl
set_option maxRecDepth 100000 in
theorem Xct {B b:Nat} {x:Bool} {l:List UInt8} {w:World} (hT:FT 166 1) (h:FB 166 B b [.bool x] l w) (d:Nat) (hd:d≤1000) (hlen:l.length≤100000000) (hBw:B≤w.heap.size):
  Calls Tryz.prog 188 #[.pointer (some ⟨b,0,none⟩), .int .i64 d] w fun e w'=>e= .returned (.tuple #[])∧FB 166 B b [.bool x] (l++Gx x d) w'∧Below B w w'∧Beside b w w':=by
 have HF:=Xa h
 have c2:=h.lines
 clear h
 cases x
 ·have HE:Hid (l++Gx false d=l):=by rw[Hid,Gx];simp
  rw[HE.out]
  go_enter Tryz.func188,Tryz.ntmps188
  go_wp2_with fail
  go_end0
  exact ⟨rfl,HF.out,Below.refl _ _,Beside.refl _ _⟩
 ·have HE:Hid (l++Gx true d=l++ [10]++(ByteArray.mk (Lib.repeatL (ByteArray.mk #[32,32]).data.toList d).toArray).data.toList):=by
   rw[Hid,Gx,if_pos rfl,List.append_assoc]
   show l++10::List.replicate (2 *d) 32=l++([10]++Lib.repeatL [32,32] d)
   rw[Xcs];rfl
  have hsz:(ByteArray.mk (Lib.repeatL (ByteArray.mk #[32,32]).data.toList d).toArray).size≤2000:=by
   show (Lib.repeatL [32,32] d).toArray.size≤2000
   rw[Xcs];simp;omega
  rw[HE.out]
  obtain ⟨S,hS⟩:∃S,ByteArray.mk (Lib.repeatL (ByteArray.mk #[32,32]).data.toList d).toArray=S:=⟨_,rfl⟩
  have CR:=Xa (fun w=>Xof ⟨#[32,32]⟩ d w (by show 2 *d≤_;omega) (by omega))
  rw[hS] at hsz⊢
  rw[hS] at CR
  clear hS HE
  go_enter Tryz.func188,Tryz.ntmps188
  go_wp2_with (go_at_call 131;refine (Vm hT HF.out 10 (by omega) hBw).mono ?_;rintro e w1 ⟨rfl,f1,b1,k1⟩;have z1:=b1.size)
  have HF1:=Xa f1
  clear f1
  go_region_law (first
   |(refine Jp (by rfl) 196 _ _ _ _ (by rfl) (.string ⟨#[32,32]⟩) (.int .i64 d) (by rfl) (by rfl) (Xsa _ _) (CR.out _) ?_;rintro e w2 ⟨rfl,b2⟩;have z2:w1.heap.size≤w2.heap.size:=b2.size;refine ⟨_,rfl, ?_⟩)
   |(refine Jp (by rfl) 92 _ _ _ _ (by rfl) (.pointer (some ⟨b,0,none⟩)) (.string S) (by rfl) (by rfl) (Wj _ _) (Xao hT (HF1.out.drew.keep b2) S (by rw[List.length_append];simp;omega) (by omega)) ?_;rintro e w3 ⟨rfl,f3,b3,k3⟩;refine ⟨_,rfl, ?_⟩))
  all_goals (
   go_wp2_with fail
   go_end0
   exact ⟨rfl,f3,((b1.drew).trans (b2.mono (show B≤w1.drew.heap.size from Nat.le_trans hBw z1))).trans b3,(k1.trans (Beside.below (w:=w1.drew) b2)).trans k3⟩)
set_option maxRecDepth 100000 in
theorem Xim {B b:Nat} {x:Bool} {l:List UInt8} {w:World} (hT:FT 166 1) (h:FB 166 B b [.bool x] l w) (key:ByteArray) (hk:key.size≤60) (hlen:l.length≤100000000) (hBw:B≤w.heap.size):
  Calls Tryz.prog 189 #[.pointer (some ⟨b,0,none⟩), .string key] w fun e w'=>e= .returned (.tuple #[])∧FB 166 B b [.bool x] (l++Xc0 x key) w'∧Below B w w'∧Beside b w w':=by
 have HF:=Xa h
 clear h
 have hql:=(Wc key).2
 have CQ:=Xa (fun w=>Xit key w (by omega))
 have HE:Hid (Xc0 x key=Gp key++58::(if x=true then [32] else [])):=rfl
 obtain ⟨Q,hQ⟩:∃Q,Gp key=Q:=⟨_,rfl⟩
 rw[hQ] at hql CQ HE
 clear hQ
 have hqs:(txt Q).size≤362:=by rw[Xo];omega
 have HQ:Hid ((txt Q).data.toList=Q):=Xz Q
 go_enter Tryz.func189,Tryz.ntmps189
 go_wp2_with fail
 go_region_law (first
  |(refine Xae (by rfl) 165 _ _ (by rfl) (.string key) (by rfl) (Xil _) (CQ.out _) ?_;rintro e w1 ⟨rfl,b1⟩;have z1:w.heap.size≤w1.heap.size:=b1.size;refine ⟨_,rfl, ?_⟩)
  |(refine Jp (by rfl) 92 _ _ _ _ (by rfl) (.pointer (some ⟨b,0,none⟩)) (.string (txt Q)) (by rfl) (by rfl) (Wj _ _) (Xao hT (HF.out.drew.keep b1) (txt Q) (by omega) (by omega)) ?_;rintro e w2 ⟨rfl,f2,b2,k2⟩;have z2:=b2.size;refine ⟨_,rfl, ?_⟩))
 all_goals (
  rw[HQ.out] at f2
  have HF2:=Xa f2
  have HB2:=Xa (((Below.drew (Below.refl B w)).trans (b1.mono (show B≤w.drew.heap.size from hBw))).trans b2)
  have HK2:=Xa ((Beside.below (b:=b) (w:=w.drew) b1).trans k2)
  clear f2 b1 b2 k2
  go_wp2_with fail
  refine (Vm hT HF2.out 58 (by rw[List.length_append];omega) (by omega)).mono ?_
  rintro e w3 ⟨rfl,f3,b3,k3⟩
  have c2:=f3.lines
  have z3:=b3.size
  have HF3:=Xa f3
  clear f3
  cases x
  ·go_wp2_with fail
   go_end0
   exact ⟨rfl,by rw[HE.out];simpa using HF3.out,HB2.out.trans b3,HK2.out.trans k3⟩
  ·go_wp2_with fail
   refine (Vm hT HF3.out 32 (by simp;omega) (by omega)).mono ?_
   rintro e w4 ⟨rfl,f4,b4,k4⟩
   go_wp2_with fail
   go_end0
   exact ⟨rfl,by rw[HE.out];simpa using f4,(HB2.out.trans b3).trans b4,(HK2.out.trans k3).trans k4⟩)

def Xu9 (B b:Nat) (x:Bool) (f:Nat):Prop:=∀(deep:Nat) (t:VT) (v:Value) (l:List UInt8) (w:World),FB 166 B b [.bool x] l w→TreeAt B w f t v→Xm1 f t→TabB B w→B≤w.heap.size→deep+f≤500→(l++Yn x f deep t).length≤100000000→
 Calls Tryz.prog 130 #[.pointer (some ⟨b,0,none⟩),v, .int .i64 deep] w fun e w'=>e= .returned (.tuple #[])∧FB 166 B b [.bool x] (l++Yn x f deep t) w'∧Below B w w'∧Beside b w w'
def Xo0 (B:Nat) (w:World) (named:Bool) (kv:Value) (keys:List ByteArray) (m:Nat):Prop:=
 if named=true then StrsAt B w kv keys∧keys.length=m∧∀j,j<m→(Xt keys j).size≤60 else kv= .slice none 0 0
def Wk (k:Nat):List UInt8:=if k=0 then [] else [44]
theorem Xo1 (F:VT→List UInt8) (lines named:Bool) (deep:Nat) (keys:List ByteArray) (kids:List VT) (k:Nat):
  Jh F lines named deep keys kids (k+1)=Jh F lines named deep keys kids k++Wk k++Gx lines (deep+1)++(if named=true then Xc0 lines (Xt keys k) else [])++F (K9 kids k):=rfl
set_option maxRecDepth 100000 in
theorem Xbp (B b:Nat) (x:Bool) (hT:FT 166 1) (f:Nat) (ih:Xu9 B b x f) (named:Bool) (deep:Nat) (kv it:Value) (keys:List ByteArray) (kids:List VT) (l:List UInt8) (w:World)
  (hfb:FB 166 B b [.bool x] l w) (hk:Xo0 B w named kv keys kids.length) (hi:Xbr B w it kids.length (fun j u=>TreeAt B w f (K9 kids j) u)) (hft:∀j,j<kids.length→Xm1 f (K9 kids j)) (htab:TabB B w) (hBw:B≤w.heap.size) (hd:deep+1+f≤500)
  (hlen:(l++Jy (Yn x f (deep+1)) x named deep keys kids).length≤100000000):
  Calls Tryz.prog 166 #[.pointer (some ⟨b,0,none⟩),kv,it, .int .i64 deep] w fun e w'=>e= .returned (.tuple #[])∧FB 166 B b [.bool x] (l++Jy (Yn x f (deep+1)) x named deep keys kids) w'∧Below B w w'∧Beside b w w':=by
 have HFB:=Xa hfb
 have IH:=Xa ih
 have HTAB:=Xa htab
 obtain ⟨hm0,ai,ci,rfl,hx⟩:=hi
 have HX:=Xa hx
 obtain ⟨M,hM⟩:∃M,kids.length=M:=⟨_,rfl⟩
 have HWJ:Hid (Jy (Yn x f (deep+1)) x named deep keys kids=if M=0 then [] else Jh (Yn x f (deep+1)) x named deep keys kids M++Gx x deep):=by rw[Hid,Jy,hM]
 rw[hM] at HX hm0 hft hk⊢
 have HFT:=Xa hft
 have HMM:=Xa hM
 clear hx hft hM hfb ih htab
 obtain ⟨aK,MK,cK,rfl,hMK,HKK⟩:∃aK MK cK,kv= .slice aK MK cK∧Hid (MK=if named=true then M else 0)∧Hid (named=true→∀(wr:World),Below B w wr→∀k,k<M→∃bk ok,aK=some ⟨bk,ok,none⟩∧bk<B∧wr.cell? ⟨bk,ok+k,none⟩=some (.string (Xt keys k))∧(Xt keys k).size≤60):=by
  unfold Xo0 at hk
  cases named
  ·simp only[Bool.false_eq_true,if_false] at hk
   exact ⟨_,_,_,hk,by simp[Hid],fun h=>by cases h⟩
  ·simp only[if_true] at hk
   obtain ⟨⟨_,_,aK,cK,e,hkc⟩,e2,e3⟩:=hk
   refine ⟨aK,M,cK,by rw[e,e2],by simp[Hid],fun _ wr hb k hkM=> ?_⟩
   obtain ⟨bk,ok,e4,hbk,hcc⟩:=hkc (by omega)
   exact ⟨bk,ok,e4,hbk,(Xd hb hbk).trans (hcc k (by omega)),e3 k hkM⟩
 clear hk
 by_cases h0:M=0
 ·subst h0
  rw[HWJ.out,if_pos rfl,List.append_nil]
  go_enter Tryz.func166,Tryz.ntmps166
  go_wp2_with fail
  exact bodyPost_ret (results_none rfl _ _ _) rfl ⟨rfl,HFB.out,Below.refl _ _,Beside.refl _ _⟩
 rw[HWJ.out,if_neg h0] at hlen⊢
 clear HWJ
 have HLM:Hid (∀k,k≤M→(l++Jh (Yn x f (deep+1)) x named deep keys kids k).length≤100000000):=fun k hk=>by
  have h2:=Xkt (Yn x f (deep+1)) x named deep keys kids hk
  simp only[List.length_append] at hlen⊢
  omega
 have hne:((M:Int)==0)=false:=by simp;omega
 have hne2:¬(M:Int)=0:=by omega
 have hl2:l.length≤100000000:=by simp only[List.length_append] at hlen;omega
 clear hlen
 have e1:IntKind.i64.wrap ((deep:Int)+1)=((deep+1:Nat):Int):=(Xco (by omega) (by omega)).trans (by omega)
 go_enter Tryz.func166,Tryz.ntmps166
 go_wp2_with fail
 go_loopw [8,9,15] (fun _ _ i wr=>∃k:Nat,k≤M∧i= .int .i64 k∧FB 166 B b [.bool x] (l++Jh (Yn x f (deep+1)) x named deep keys kids k) wr∧Below B w wr∧Beside b w wr) (fun _ _ i _=>M-(intOf i).toNat)
 case atStart=>exact ⟨0,Nat.zero_le _,rfl,by rw[Jh,List.append_nil];exact HFB.out,Below.refl _ _,Beside.refl _ _⟩
 case round =>
  obtain ⟨k,hk,rfl,hf,hb,hks⟩:=hrel
  have HF:=Xa hf
  have HB:=Xa hb
  have HK:=Xa hks
  have zr:=hb.size
  clear hf hb hks
  by_cases hlt:k<M
  ·have hlt':(k:Int)<(M:Int):=by omega
   obtain ⟨bi,rfl,hbi,hc⟩:=HX.out (by omega)
   obtain ⟨tt,xx,hck,htr⟩:=hc k hlt
   have ck:=(Xd HB.out hbi).trans hck
   have HTR:=Xa htr
   have hlm:=HLM.out (k+1) (by omega)
   have hlm0:=HLM.out k (by omega)
   have HPJ:=Xa (Xo1 (Yn x f (deep+1)) x named deep keys kids k)
   obtain ⟨D,hD⟩:∃D,l++Jh (Yn x f (deep+1)) x named deep keys kids k=D:=⟨_,rfl⟩
   have HD:Hid (l++Jh (Yn x f (deep+1)) x named deep keys kids (k+1)=D++Wk k++Gx x (deep+1)++(if named=true then Xc0 x (Xt keys k) else [])++Yn x f (deep+1) (K9 kids k)):=by
    rw[Hid,HPJ.out,←hD];simp only[List.append_assoc]
   rw[HD.out] at hlm
   rw[hD] at hlm0 HF
   simp only[List.length_append] at hlm
   clear hc hck htr hD HPJ
   have q1:=Xc1 x (deep+1)
   have HCM:Hid (Wk k=if k=0 then [] else [44]):=rfl
   have hcl:(Wk k).length≤1:=by rw[HCM.out];split<;>simp
   rcases Nat.eq_zero_or_pos k with hk0|hk0
   rotate_left
   focus
    have hk0':(0:Int)<(k:Int):=by omega
    go_wp2_with fail
    refine (Vm hT HF.out 44 (by omega) (by omega)).mono ?_
    rintro e w1 ⟨rfl,f1,b1,k1⟩
    have HF1:Hid (FB 166 B b [.bool x] (D++Wk k) w1):=by rw[Hid,HCM.out,if_neg (by omega)];exact f1
    have HB1:=Xa (HB.out.trans b1)
    have HK1:=Xa (HK.out.trans k1)
    have z1:=HB1.out.size
    clear f1 b1 k1
   rotate_left
   focus
    have hk0':¬(0:Int)<(k:Int):=by omega
    obtain ⟨w1,hw1⟩:∃w1,w1=wr:=⟨_,rfl⟩
    subst hw1
    have HF1:Hid (FB 166 B b [.bool x] (D++Wk k) w1):=by rw[Hid,HCM.out,if_pos hk0,List.append_nil];exact HF.out
    have HB1:=HB
    have HK1:=HK
    have z1:=HB1.out.size
    have HK0:=Xa hk0
    clear hk0
   all_goals
    clear HF HB HK HCM
    obtain ⟨D1,hD1⟩:∃D1,D++Wk k=D1:=⟨_,rfl⟩
    have hl1:D1.length≤100000000:=by rw[←hD1,List.length_append];omega
    have hl1':D1.length=D.length+(Wk k).length:=by rw[←hD1,List.length_append]
    rw[hD1] at HF1 HD
    clear hD1
    go_wp2_with fail
    refine (Xct hT HF1.out (deep+1) (by omega) hl1 (by omega)).mono ?_
    rintro e w2 ⟨rfl,f2,b2,k2⟩
    have HF2:=Xa f2
    have HB2:=Xa (HB1.out.trans b2)
    have HK2:=Xa (HK1.out.trans k2)
    have z2:=HB2.out.size
    clear f2 b2 k2
    cases named
    ·have hMK0:MK=0:=by rw[hMK.out];rfl
     subst hMK0
     have HIH:=Xa (IH.out (deep+1) (K9 kids k) (.iface tt xx) _ w2 HF2.out (TreeAt.keep (fun c hc2=>HB2.out.block c hc2) (Nat.le_refl _) HTR.out) (HFT.out k hlt) (HTAB.out.next HB2.out) (by omega) (by omega) (by simp only[List.length_append,Bool.false_eq_true,if_false,List.length_nil] at hlm⊢;omega))
     go_wp2_with fail
     refine HIH.out.mono ?_
     rintro e w4 ⟨rfl,f4,b4,k4⟩
     have HF4:Hid (FB 166 B b [.bool x] (l++Jh (Yn x f (deep+1)) x false deep keys kids (k+1)) w4):=by
      rw[Hid,HD.out];simpa using f4
     have HB4:=Xa (HB2.out.trans b4)
     have HK4:=Xa (HK2.out.trans k4)
     clear f4 b4 k4
     go_wp2_with fail
     exact ⟨⟨k+1,by omega,by go_num,HF4.out,HB4.out,HK4.out⟩,by simp[intOf];omega⟩
    ·obtain ⟨bk,ok,rfl,hbk,hcc,hks⟩:=HKK.out rfl w2 HB2.out k hlt
     have hMK1:MK=M:=by rw[hMK.out];rfl
     subst hMK1
     have hM0:(0:Int)<(MK:Int):=by omega
     go_wp2_with fail
     refine (Xim hT HF2.out (Xt keys k) hks (by rw[List.length_append];omega) (by omega)).mono ?_
     rintro e w3 ⟨rfl,f3,b3,k3⟩
     have HF3:=Xa f3
     have HB3:=Xa (HB2.out.trans b3)
     have HK3:=Xa (HK2.out.trans k3)
     have z3:=HB3.out.size
     clear f3 b3 k3
     have HIH:=Xa (IH.out (deep+1) (K9 kids k) (.iface tt xx) _ w3 HF3.out (TreeAt.keep (fun c hc2=>HB3.out.block c hc2) (Nat.le_refl _) HTR.out) (HFT.out k hlt) (HTAB.out.next HB3.out) (by omega) (by omega) (by simp only[List.length_append,if_true] at hlm⊢;omega))
     go_wp2_with fail
     refine HIH.out.mono ?_
     rintro e w4 ⟨rfl,f4,b4,k4⟩
     have HF4:Hid (FB 166 B b [.bool x] (l++Jh (Yn x f (deep+1)) x true deep keys kids (k+1)) w4):=by
      rw[Hid,HD.out];simpa using f4
     have HB4:=Xa (HB3.out.trans b4)
     have HK4:=Xa (HK3.out.trans k4)
     clear f4 b4 k4
     go_wp2_with fail
     exact ⟨⟨k+1,by omega,by go_num,HF4.out,HB4.out,HK4.out⟩,by simp[intOf];omega⟩
  ·obtain rfl:k=M:=by omega
   go_wp2_with (go_at_call 188;refine (Xct hT HF.out deep (by omega) (HLM.out k (Nat.le_refl _)) (by omega)).mono ?_;rintro e w2 ⟨rfl,f2,b2,k2⟩)
   go_end0
   exact ⟨rfl,by rw[←List.append_assoc];exact f2,HB.out.trans b2,HK.out.trans k2⟩
theorem Xvy (u:Value):∀w,(callFunc 164 #[u]).run Tryz.prog w= .ok (.enter 164 #[u]) w:=fun w=>by kernel_rfl
theorem Xvz (u v:Value):∀w,(callFunc 93 #[u,v]).run Tryz.prog w= .ok (.enter 93 #[u,v]) w:=fun w=>by kernel_rfl
set_option maxRecDepth 100000 in
theorem Xmu (B b:Nat) (x:Bool) (hT:FT 166 1):∀f,Xu9 B b x f:=by
 intro f
 induction f with
 |zero=>intro deep t v l w _ h;exact h.elim
 | succ f ih =>
  intro deep t v l w hfb h hft htab hBw hdf hlen
  obtain ⟨kind,n,s,keys,kids⟩:=t
  have HLF:=Xb (Zz x f deep (kind:=kind) (n:=n) (s:=s) (keys:=keys) (kids:=kids))
  obtain ⟨g2,g3,g4,g80,g6,gk⟩:=hft
  have HFB:=Xb hfb
  have IH:=Xb ih
  have HTAB:=Xb htab
  have HGK:=Xb gk
  clear hfb ih htab gk
  rcases h with ⟨rfl,rfl,rfl,rfl,rfl,rfl⟩|⟨rfl,rfl,rfl,rfl,rfl⟩|⟨rfl,rfl,rfl,rfl,rfl⟩|⟨rfl,rfl,rfl,rfl,rfl⟩|⟨rfl,rfl,rfl,rfl,it,rfl,hi⟩|⟨rfl,rfl,rfl,ks,it,rfl,hs,hi⟩
  ·have HE:=Xb (HLF.out.1 rfl)
   rw[HE.out] at hlen⊢
   have hl2:l.length+4≤100000000:=by simpa using hlen
   have t1:=Xjw
   go_enter Tryz.func130,Tryz.ntmps130
   go_wp2_with fail
   refine (Xao hT (HFB.out.alloc _) ⟨#[110,117,108,108]⟩ (by show l.length+4≤_;omega) (by simp;omega)).mono ?_
   rintro e w1 ⟨rfl,f1,b1,k1⟩
   have HF1:=Xb f1
   have HB1:=Xb (((Below.refl _ _).alloc hBw _).trans b1)
   have HK1:=Xb ((Beside.alloc b w _).trans k1)
   clear f1 b1 k1
   go_wp2_with fail
   go_end0
   exact ⟨rfl,HF1.out,HB1.out,HK1.out⟩
  ·have HE:=Xb (HLF.out.2.1 rfl)
   rw[HE.out] at hlen⊢
   have hn:=g2 rfl
   have t1:=Xjx
   have t2:=Xjy
   have hBa:∀o,B≤(w.alloc o).drew.heap.size:=fun o=>by simp;omega
   have CB:=Xb (fun w=>Xgn (n==1) w)
   obtain ⟨S,hS⟩:∃S,ByteArray.mk (Lib.formatBool (n==1)).toArray=S:=⟨_,rfl⟩
   have HSL:Hid ((if n=1 then [116,114,117,101] else [102,97,108,115,101]:List UInt8)=S.data.toList):=by
    rw[Hid,←hS]
    rcases (show n=0∨n=1 by omega) with rfl|rfl<;>rfl
   have hsz:S.size≤5:=by
    rw[←hS]
    rcases (show n=0∨n=1 by omega) with rfl|rfl<;>decide
   rw[hS] at CB
   rw[HSL.out] at hlen⊢
   have hl2:l.length≤100000000:=by simp only[List.length_append] at hlen;omega
   clear hS HSL hlen HE
   go_enter Tryz.func130,Tryz.ntmps130
   go_wp2_with fail
   go_region_law (first
    |(refine Xae (by rfl) 164 _ _ (by rfl) (.bool (n==1)) (by rfl) (Xvy _) (CB.out _) ?_;rintro e w9 ⟨rfl,h9⟩;subst w9;refine ⟨_,rfl, ?_⟩)
    |(refine Jp (by rfl) 92 _ _ _ _ (by rfl) (.pointer (some ⟨b,0,none⟩)) (.string S) (by rfl) (by rfl) (Wj _ _) (Xao hT (HFB.out.alloc _).drew S (by omega) (hBa _)) ?_;rintro e w1 ⟨rfl,f1,b1,k1⟩;refine ⟨_,rfl, ?_⟩))
   all_goals (
    have HF1:=Xb f1
    have HB1:=Xb ((((Below.refl _ _).alloc hBw _).drew).trans b1)
    have HK1:=Xb ((Beside.alloc b w _).trans k1)
    clear f1 b1 k1
    go_wp2_with fail
    go_end0
    exact ⟨rfl,HF1.out,HB1.out,HK1.out⟩)
  ·have HE:=Xb (HLF.out.2.2.1 rfl)
   rw[HE.out] at hlen⊢
   have hn:=g3 rfl
   have t1:=Xlj
   have t2:=Xlk
   have t3:=Xoc
   have hBa:∀o,B≤(w.alloc o).drew.heap.size:=fun o=>by simp;omega
   have CI:=Xb (fun w h=>G0 n (by omega) (by omega) w h)
   have hil:=Lib.itoa_length_le n (by omega) (by omega)
   obtain ⟨D,hD⟩:∃D,Lib.itoa n=D:=⟨_,rfl⟩
   rw[hD] at CI hil hlen⊢
   obtain ⟨S,hS⟩:∃S,ByteArray.mk D.toArray=S:=⟨_,rfl⟩
   have HSL:Hid (D=S.data.toList):=by rw[Hid,←hS]
   have hsz:S.size≤21:=by rw[←hS];show D.toArray.size≤21;simpa using hil
   rw[hS] at CI
   rw[HSL.out] at hlen⊢
   have hl2:l.length≤100000000:=by simp only[List.length_append] at hlen;omega
   clear hS HSL hlen HE hil hD
   go_enter Tryz.func130,Tryz.ntmps130
   go_wp2_with fail
   go_region_law (first
    |(refine Jp (by rfl) 93 _ _ _ _ (by rfl) (.int .i64 n) (.int .i64 10) (by rfl) (by rfl) (Xvz _ _) (CI.out _ (HTAB.out _ (((Below.refl _ _).alloc hBw _).drew))) ?_;rintro e w9 ⟨rfl,b9⟩;have z9:(w.alloc _).drew.heap.size≤w9.heap.size:=b9.size;refine ⟨_,rfl, ?_⟩)
    |(refine Jp (by rfl) 92 _ _ _ _ (by rfl) (.pointer (some ⟨b,0,none⟩)) (.string S) (by rfl) (by rfl) (Wj _ _) (Xao hT ((HFB.out.alloc _).drew.keep b9) S (by omega) (Nat.le_trans (hBa _) z9)) ?_;rintro e w1 ⟨rfl,f1,b1,k1⟩;refine ⟨_,rfl, ?_⟩))
   all_goals (
    have HF1:=Xb f1
    have HB1:=Xb (((((Below.refl _ _).alloc hBw _).drew).trans (b9.mono (hBa _))).trans b1)
    have HK1:=Xb (((show Beside b w (w.alloc (.cells #[.int .i64 n] 197)).drew from Beside.alloc b w _).trans (Beside.below b9)).trans k1)
    clear f1 b1 k1
    go_wp2_with fail
    go_end0
    exact ⟨rfl,HF1.out,HB1.out,HK1.out⟩)
  ·have HE:=Xb (HLF.out.2.2.2.1 rfl)
   rw[HE.out] at hlen⊢
   have hn:=g4 rfl
   have t1:=Xjz
   have t2:=Xj0
   have t3:=Xll
   have t4:=Xj1
   have hBa:∀o,B≤(w.alloc o).drew.heap.size:=fun o=>by simp;omega
   have CQ:=Xb (fun w=>Xit s w (by omega))
   have hql:=(Wc s).2
   obtain ⟨Q,hQ⟩:∃Q,Gp s=Q:=⟨_,rfl⟩
   rw[hQ] at CQ hql hlen⊢
   have hqs:(txt Q).size≤362:=by rw[Xo];omega
   have HQ:Hid ((txt Q).data.toList=Q):=Xz Q
   have hl2:l.length≤100000000:=by simp only[List.length_append] at hlen;omega
   clear hlen HE hql hQ
   go_enter Tryz.func130,Tryz.ntmps130
   go_wp2_with fail
   go_region_law (first
    |(refine Xae (by rfl) 165 _ _ (by rfl) (.string s) (by rfl) (Xil _) (CQ.out _) ?_;rintro e w9 ⟨rfl,b9⟩;have z9:(w.alloc _).drew.heap.size≤w9.heap.size:=b9.size;refine ⟨_,rfl, ?_⟩)
    |(refine Jp (by rfl) 92 _ _ _ _ (by rfl) (.pointer (some ⟨b,0,none⟩)) (.string (txt Q)) (by rfl) (by rfl) (Wj _ _) (Xao hT ((HFB.out.alloc _).drew.keep b9) (txt Q) (by omega) (Nat.le_trans (hBa _) z9)) ?_;rintro e w1 ⟨rfl,f1,b1,k1⟩;refine ⟨_,rfl, ?_⟩))
   all_goals (
    rw[HQ.out] at f1
    have HF1:=Xb f1
    have HB1:=Xb (((((Below.refl _ _).alloc hBw _).drew).trans (b9.mono (hBa _))).trans b1)
    have HK1:=Xb (((show Beside b w (w.alloc (.cells #[.string s] 199)).drew from Beside.alloc b w _).trans (Beside.below b9)).trans k1)
    clear f1 b1 k1
    go_wp2_with fail
    go_end0
    exact ⟨rfl,HF1.out,HB1.out,HK1.out⟩)
  ·have HE:=Xb (HLF.out.2.2.2.2.1 rfl)
   rw[HE.out] at hlen⊢
   have HIT:=Xb hi
   obtain ⟨hm0,ai,ci,rfl,_⟩:=hi
   have hl2:(l++ [91]++Jy (Yn x f (deep+1)) x false deep [] kids).length+1≤100000000:=by
    simp only[List.length_append,List.length_cons,List.length_nil] at hlen⊢;omega
   have hl1:l.length+1≤100000000:=by simp only[List.length_append,List.length_cons,List.length_nil] at hl2;omega
   have HEND:Hid (l++91::(Jy (Yn x f (deep+1)) x false deep [] kids++ [93])=l++ [91]++Jy (Yn x f (deep+1)) x false deep [] kids++ [93]):=by rw[Hid];simp
   rw[HEND.out]
   have hbl:=HFB.out.lt
   have t1:=Xj2
   have t2:=Xj3
   have t3:=Xlm
   have t4:=Xj4
   have t5:=Xj5
   obtain ⟨M,hM⟩:∃M,kids.length=M:=⟨_,rfl⟩
   have HMM:=Xb hM
   rw[hM] at HIT⊢
   clear hM hlen HE
   have HBX:Hid (∀w1,Beside b (w.alloc (.cells #[.slice ai M ci] 201)) w1→w1.cell? ⟨w.heap.size,0,none⟩=some (.slice ai M ci)):=fun w1 k1=>by
    have hh:(w.alloc (.cells #[.slice ai M ci] 201)).heap[w.heap.size]? =some (.cells #[.slice ai M ci] 201 (0,0)):=heap_alloc_new w _
    have:=k1.2 w.heap.size (by simp) (by omega) (fun cs z e=>by rw[hh] at e;injection e with e;injection e with _ e2;revert e2;decide)
    exact cellAt (this.trans hh) rfl
   have HL2:=Xb hl2
   clear hl2
   go_enter Tryz.func130,Tryz.ntmps130
   go_wp2_with fail
   refine (Vm hT (HFB.out.alloc _) 91 (by omega) (by simp;omega)).mono ?_
   rintro e w1 ⟨rfl,f1,b1,k1⟩
   have c1:=HBX.out w1 k1
   have HF1:=Xb f1
   have HB1:=Xb (((Below.refl _ _).alloc hBw _).trans b1)
   have HK1:=Xb ((Beside.alloc b w _).trans k1)
   have z1:=HB1.out.size
   clear f1 b1 k1
   have HWP:=Xb (Xbp B b x hT f IH.out false deep (.slice none 0 0) (.slice ai M ci) [] kids _ w1 HF1.out rfl (by
    rw[HMM.out]
    obtain ⟨h0,a2,c2,e2,h3⟩:=HIT.out
    refine ⟨h0,a2,c2,e2,fun hp=> ?_⟩
    obtain ⟨bb,h4,h5,h6⟩:=h3 hp
    exact ⟨bb,h4,h5,fun j hj=>by obtain ⟨tt,xx,h7,h8⟩:=h6 j hj;exact ⟨tt,xx,(Xd HB1.out h5).trans h7,TreeAt.keep (fun c hc2=>HB1.out.block c hc2) (Nat.le_refl _) h8⟩⟩) HGK.out (HTAB.out.next HB1.out) (by omega) (by omega) (by have:=HL2.out;omega))
   go_wp2_with fail
   refine HWP.out.mono ?_
   rintro e w2 ⟨rfl,f2,b2,k2⟩
   have HF2:=Xb f2
   have HB2:=Xb (HB1.out.trans b2)
   have HK2:=Xb (HK1.out.trans k2)
   have z2:=HB2.out.size
   clear f2 b2 k2
   go_wp2_with fail
   refine (Vm hT HF2.out 93 (by have:=HL2.out;omega) (by omega)).mono ?_
   rintro e w3 ⟨rfl,f3,b3,k3⟩
   have HF3:=Xb f3
   have HB3:=Xb (HB2.out.trans b3)
   have HK3:=Xb (HK2.out.trans k3)
   clear f3 b3 k3
   go_wp2_with fail
   go_end0
   exact ⟨rfl,HF3.out,HB3.out,HK3.out⟩
  ·have HE:=Xb (HLF.out.2.2.2.2.2 rfl)
   rw[HE.out] at hlen⊢
   have HIT:=Xb hi
   have HSK:=Xb hs
   obtain ⟨hm0,ai,ci,rfl,_⟩:=hi
   obtain ⟨_,_,aK,cK,rfl,_⟩:=hs
   obtain ⟨q1,q2⟩:=g6 rfl
   have hl2:(l++ [123]++Jy (Yn x f (deep+1)) x true deep keys kids).length+1≤100000000:=by
    simp only[List.length_append,List.length_cons,List.length_nil] at hlen⊢;omega
   have hl1:l.length+1≤100000000:=by simp only[List.length_append,List.length_cons,List.length_nil] at hl2;omega
   have HEND:Hid (l++123::(Jy (Yn x f (deep+1)) x true deep keys kids++ [125])=l++ [123]++Jy (Yn x f (deep+1)) x true deep keys kids++ [125]):=by rw[Hid];simp
   rw[HEND.out]
   have hbl:=HFB.out.lt
   have t1:=Xln
   have t2:=Xlo
   have t3:=Xod
   have t4:=Xlp
   have t5:=Xlq
   have t6:=Xoe
   obtain ⟨M,hM⟩:∃M,kids.length=M:=⟨_,rfl⟩
   have HMM:=Xb hM
   rw[hM] at HIT q1⊢
   obtain ⟨MK,hMK⟩:∃MK,keys.length=MK:=⟨_,rfl⟩
   rw[hMK] at HSK⊢
   have HQ1:Hid (keys.length=M):=q1
   have HQ2:Hid (∀j,j<M→(Xt keys j).size≤60):=fun j hj=>q2 j (by omega)
   clear hM hlen HE hMK q1 q2 g6
   have HBX:Hid (∀w1,Beside b (w.alloc (.cells #[.slice aK MK cK, .slice ai M ci] 204)) w1→w1.cell? ⟨w.heap.size,0,none⟩=some (.slice aK MK cK)∧w1.cell? ⟨w.heap.size,1,none⟩=some (.slice ai M ci)):=fun w1 k1=>by
    have hh:(w.alloc (.cells #[.slice aK MK cK, .slice ai M ci] 204)).heap[w.heap.size]? =some (.cells #[.slice aK MK cK, .slice ai M ci] 204 (0,0)):=heap_alloc_new w _
    have:=k1.2 w.heap.size (by simp) (by omega) (fun cs z e=>by rw[hh] at e;injection e with e;injection e with _ e2;revert e2;decide)
    exact ⟨cellAt (this.trans hh) rfl,cellAt (this.trans hh) rfl⟩
   have HL2:=Xb hl2
   clear hl2
   go_enter Tryz.func130,Tryz.ntmps130
   go_wp2_with fail
   refine (Vm hT (HFB.out.alloc _) 123 (by omega) (by simp;omega)).mono ?_
   rintro e w1 ⟨rfl,f1,b1,k1⟩
   have c1:=(HBX.out w1 k1).1
   have c2:=(HBX.out w1 k1).2
   have HF1:=Xb f1
   have HB1:=Xb (((Below.refl _ _).alloc hBw _).trans b1)
   have HK1:=Xb ((Beside.alloc b w _).trans k1)
   have z1:=HB1.out.size
   clear f1 b1 k1
   have HWP:=Xb (Xbp B b x hT f IH.out true deep (.slice aK MK cK) (.slice ai M ci) keys kids _ w1 HF1.out (by
    show StrsAt B w1 _ keys∧keys.length=kids.length∧_
    rw[HMM.out]
    exact ⟨HSK.out.below HB1.out,HQ1.out,HQ2.out⟩) (by
    rw[HMM.out]
    obtain ⟨h0,a2,c2,e2,h3⟩:=HIT.out
    refine ⟨h0,a2,c2,e2,fun hp=> ?_⟩
    obtain ⟨bb,h4,h5,h6⟩:=h3 hp
    exact ⟨bb,h4,h5,fun j hj=>by obtain ⟨tt,xx,h7,h8⟩:=h6 j hj;exact ⟨tt,xx,(Xd HB1.out h5).trans h7,TreeAt.keep (fun c hc2=>HB1.out.block c hc2) (Nat.le_refl _) h8⟩⟩) HGK.out (HTAB.out.next HB1.out) (by omega) (by omega) (by have:=HL2.out;omega))
   go_wp2_with fail
   refine HWP.out.mono ?_
   rintro e w2 ⟨rfl,f2,b2,k2⟩
   have HF2:=Xb f2
   have HB2:=Xb (HB1.out.trans b2)
   have HK2:=Xb (HK1.out.trans k2)
   have z2:=HB2.out.size
   clear f2 b2 k2
   go_wp2_with fail
   refine (Vm hT HF2.out 125 (by have:=HL2.out;omega) (by omega)).mono ?_
   rintro e w3 ⟨rfl,f3,b3,k3⟩
   have HF3:=Xb f3
   have HB3:=Xb (HB2.out.trans b3)
   have HK3:=Xb (HK2.out.trans k3)
   clear f3 b3 k3
   go_wp2_with fail
   go_end0
   exact ⟨rfl,HF3.out,HB3.out,HK3.out⟩
end Go.Proofs.YtehihemfepbmfaaGreatDoor
