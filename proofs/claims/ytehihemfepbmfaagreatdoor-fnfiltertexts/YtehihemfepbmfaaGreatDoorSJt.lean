import Derived.Test.YtehihemfepbmfaaGreatDoorVAt
import Derived.Lib.ItoaLen
import Derived.Test.YtehihemfepbmfaaGreatDoorSDig
import Derived.Test.YtehihemfepbmfaaGreatDoorSpc3
namespace Go.Proofs.YtehihemfepbmfaaGreatDoor
set_option linter.unusedSectionVars false
set_option maxHeartbeats 1600000
open Go.RowKit
set_option linter.unusedSimpArgs false
set_option linter.unusedVariables false
theorem Xwi (u:Nat):1≤(Lib.decDigits u).length:=by
 rw[Lib.decDigits]
 split<;>simp
theorem Xsx (n:Int):1≤(Lib.itoa n).length:=by
 unfold Lib.itoa
 split
 ·simp
 ·exact Xwi _
theorem Xgx {vs:List VN} (hok:okB vs=true) (lines:Bool) (f deep:Nat) {i:Nat} (hi:i<vs.length):1≤(Yn lines (f+1) deep (Yp vs (f+1) i)).length:=by
 rw[Yp]
 have hl:=Zz lines f deep (kind:=(Xc vs i).kind) (n:=(Xc vs i).n) (s:=(Xc vs i).s) (keys:=(Xc vs i).keys) (kids:=(Xc vs i).kids.map fun k=>Yp vs f k.toNat)
 rcases Wx hok hi with k|⟨k,_⟩|⟨k,_⟩|⟨k,_⟩|k|⟨k,_⟩
 ·rw[hl.1 k];simp
 ·rw[hl.2.1 k];split<;>simp
 ·rw[hl.2.2.1 k];exact Xsx _
 ·rw[hl.2.2.2.1 k];have:=(Wc (Xc vs i).s).1;omega
 ·rw[hl.2.2.2.2.1 k];simp
 ·rw[hl.2.2.2.2.2 k];simp
theorem Xsy {vs:List VN} (hok:okB vs=true) (lines:Bool):∀(f deep i:Nat) (sh:Nat),i<vs.length→i<f→deep+i≤100→(Yn lines f deep (Yp vs f i)).length+600≤1200 *(U8 f (Yp vs f i) sh).length:=by
 intro f
 induction f with
 |zero=>intro deep i sh hi hf;omega
 | succ f ih =>
  intro deep i sh hi hf hd
  rw[Yp]
  have hl:=Zz lines f deep (kind:=(Xc vs i).kind) (n:=(Xc vs i).n) (s:=(Xc vs i).s) (keys:=(Xc vs i).keys) (kids:=(Xc vs i).kids.map fun k=>Yp vs f k.toNat)
  rw[Xwz]
  have hkid:∀(named:Bool),(named=true→∀j,j<(Xc vs i).kids.length→(Xt (Xc vs i).keys j).size≤60)→∀k,k≤(Xc vs i).kids.length→
    (Jh (Yn lines f (deep+1)) lines named deep (Xc vs i).keys ((Xc vs i).kids.map fun k=>Yp vs f k.toNat) k).length≤1200 *(Xca f sh ((Xc vs i).kids.map fun k=>Yp vs f k.toNat) k).length:=by
   intro named hkey k
   induction k with
   |zero=>intro _;simp[Jh]
   | succ k ihk =>
    intro hk
    have h1:=ihk (by omega)
    rw[Jh,Xqo f sh (by rw[List.length_map];omega)]
    simp only[List.length_append]
    rw[Xeo (by omega)]
    obtain ⟨_,p2,_,_⟩:=K2 hok
    have hki:=Us (p2 i hi).2 (j:=k) (by omega)
    have h2:=ih (deep+1) (Xk (Xc vs i).kids k).toNat (sh+(Xca f sh ((Xc vs i).kids.map fun k=>Yp vs f k.toNat) k).length) (by omega) (by omega) (by omega)
    have h3:(if named=true then Xc0 lines (Xt (Xc vs i).keys k) else []).length≤364:=by
     cases named
     ·simp
     ·have:=Xsv lines (Xt (Xc vs i).keys k)
      have:=hkey rfl k (by omega)
      simp only[if_true];omega
    have h4:(if k=0 then ([]:List UInt8) else [44]).length≤1:=by split<;>simp
    have h5:=Xc1 lines (deep+1)
    omega
  have hw:∀(named:Bool),(named=true→∀j,j<(Xc vs i).kids.length→(Xt (Xc vs i).keys j).size≤60)→
    (Jy (Yn lines f (deep+1)) lines named deep (Xc vs i).keys ((Xc vs i).kids.map fun k=>Yp vs f k.toNat)).length≤1200 *(Xca f sh ((Xc vs i).kids.map fun k=>Yp vs f k.toNat) (Xc vs i).kids.length).length+201:=by
   intro named hkey
   have h1:=hkid named hkey _ (Nat.le_refl _)
   have h2:=Xc1 lines deep
   unfold Jy
   rw[List.length_map]
   split
   ·simp
   ·rw[List.length_append];omega
  simp only[List.length_append,List.length_cons,List.length_nil,List.length_map]
  rcases Wx hok hi with k|⟨k,_⟩|⟨k,h1,h2⟩|⟨k,hs⟩|k|⟨k,hkk,hks⟩
  ·rw[hl.1 k];simp;omega
  ·rw[hl.2.1 k];split<;>(simp;omega)
  ·rw[hl.2.2.1 k];have:=Lib.itoa_length_le (Xc vs i).n (by omega) (by omega);omega
  ·rw[hl.2.2.2.1 k];have:=(Wc (Xc vs i).s).2;omega
  ·rw[hl.2.2.2.2.1 k]
   have h2:=hw false (by simp)
   simp only[List.length_append,List.length_cons,List.length_nil] at h2⊢
   omega
  ·rw[hl.2.2.2.2.2 k]
   have h2:=hw true (fun _ j hj=>hks j (by omega))
   simp only[List.length_append,List.length_cons,List.length_nil] at h2⊢
   omega
theorem Xmz {vs:List VN} (hok:okB vs=true) (lines:Bool) {f i:Nat} (hi:i<vs.length) (hf:i<f):(Yn lines f 0 (Yp vs f i)).length≤100000:=by
 obtain ⟨p1,_⟩:=K2 hok
 have h1:=Xsy hok lines f 0 i 0 hi hf (by omega)
 have h2:=Xu5 hok hf hi
 rw[h2.1] at h1
 have:=h2.2
 omega

open Go.RowKit Go.WideShapes
set_option maxRecDepth 100000 in
theorem Xjt (f deep:Nat) (lines:Bool) (kd nn:Int) (ss:ByteArray) (kv iv:Value) (keys:List ByteArray) (kids:List VT) (w:World) (h:kd=1∨(kd=2∧0≤nn∧nn≤1)∨(kd=3∧-1000000000000000≤nn∧nn≤1000000000000000)∨(kd=4∧ss.size≤60)):
  Calls Tryz.prog 63 #[.agg #[.int .i64 kd, .int .i64 nn, .string ss,kv,iv]] w fun e w'=>e= .returned (.string (txt (Yn lines (f+1) deep (.mk kd nn ss keys kids))))∧Below w.heap.size w w':=by
 have HLF:=Xb (Zz lines f deep (kind:=kd) (n:=nn) (s:=ss) (keys:=keys) (kids:=kids))
 rcases h with rfl|⟨rfl,h0,h1⟩|⟨rfl,h0,h1⟩|⟨rfl,h1⟩
 ·have HE:=Xb (HLF.out.1 rfl)
  go_enter Tryz.func63,Tryz.ntmps63
  go_wp2_with fail
  go_ret
  exact ⟨by rw[HE.out];rfl,(Below.refl _ _).alloc (Nat.le_refl _) _⟩
 ·have HE:=Xb (HLF.out.2.1 rfl)
  rcases (show nn=0∨nn=1 by omega) with rfl|rfl
  ·go_enter Tryz.func63,Tryz.ntmps63
   go_wp2_with fail
   go_ret
   exact ⟨by rw[HE.out];rfl,(Below.refl _ _).alloc (Nat.le_refl _) _⟩
  ·go_enter Tryz.func63,Tryz.ntmps63
   go_wp2_with fail
   go_ret
   exact ⟨by rw[HE.out];rfl,(Below.refl _ _).alloc (Nat.le_refl _) _⟩
 ·have HE:=Xb (HLF.out.2.2.1 rfl)
  go_enter Tryz.func63,Tryz.ntmps63
  go_wp2_with fail
  refine (Uc nn _ (by omega) (by omega)).mono ?_
  rintro e w1 ⟨rfl,hb1⟩
  have HB:=Xb (((Below.refl _ _).alloc (Nat.le_refl _) _).trans (hb1.mono (by simp)))
  clear hb1
  go_wp2_with fail
  go_ret
  exact ⟨by rw[HE.out];rfl,HB.out⟩
 ·have HE:=Xb (HLF.out.2.2.2.1 rfl)
  go_enter Tryz.func63,Tryz.ntmps63
  go_wp2_with fail
  refine (Xsz ss _ (by omega)).mono ?_
  rintro e w1 ⟨rfl,hb1⟩
  have HB:=Xb (((Below.refl _ _).alloc (Nat.le_refl _) _).trans (hb1.mono (by simp)))
  clear hb1
  go_wp2_with fail
  go_ret
  exact ⟨by rw[HE.out];rfl,HB.out⟩

open Go.RowKit Go.WideShapes
end Go.Proofs.YtehihemfepbmfaaGreatDoor
