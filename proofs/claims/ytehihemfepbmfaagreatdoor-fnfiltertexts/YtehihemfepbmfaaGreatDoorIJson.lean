import Derived.Test.YtehihemfepbmfaaGreatDoorIJw
import Derived.Test.YtehihemfepbmfaaGreatDoorSJt
import Derived.Test.YtehihemfepbmfaaGreatDoorFEq
namespace Go.Proofs.YtehihemfepbmfaaGreatDoor
set_option linter.unusedSectionVars false
set_option maxHeartbeats 1600000
open Go.RowKit
set_option linter.unusedSimpArgs false
set_option linter.unusedVariables false
def Xds (lines:Bool) (vs:List VN):List UInt8:=if okB vs=true then Yn lines vs.length 0 (Yp vs vs.length (vs.length-1))++(if lines=true then [10] else []) else []
theorem Xwa:FT 166 1:=⟨by kernel_rfl,by decide⟩
theorem Xgu {lines:Bool} {vs:List VN} (h:okB vs=true):Xds lines vs=Yn lines vs.length 0 (Yp vs vs.length (vs.length-1))++(if lines=true then [10] else []):=by unfold Xds;rw[if_pos h]
theorem Xsq {lines:Bool} {vs:List VN} (h:okB vs=false):Xds lines vs= []:=by unfold Xds;rw[h];rfl
theorem Xwb (w:World) (x:Bool):FB 166 w.heap.size w.heap.size [.bool x] [] (w.alloc (.cells #[.pointer none, .slice none 0 0, .bool x] 166)):=
 ⟨Nat.le_refl _, .pointer none, .slice none 0 0, .inl rfl,heap_alloc_new w _,World.ownsRow_nil _ _ _ _,by simp[Value.ownBlock]⟩
set_option maxRecDepth 100000 in
theorem Xio (B:Nat) (v:Value) (vs:List VN) (w:World) (h:NodesAt B w v vs) (hB:B≤w.heap.size) (htab:TabB w.heap.size w):
  Calls Tryz.prog 94 #[v] w fun e w'=>e= .returned (.string (txt (Xds false vs)))∧Below w.heap.size w w':=by
 have HV:=Xb h
 have HTAB:=Xb htab
 clear htab
 obtain ⟨_,a,cap,rfl,_⟩:=h
 go_enter Tryz.func94,Tryz.ntmps94
 go_wp2_with fail
 cases ok1:okB vs
 ·have HP:=Xb (Xsq (lines:=false) ok1)
  refine (Xnw B _ vs _ HV.out hB ok1).mono ?_
  rintro e w1 ⟨rfl,hb1⟩
  go_wp2_with fail
  go_ret
  exact ⟨by rw[HP.out];rfl,hb1⟩
 ·have HP:=Xb (Xgu (lines:=false) ok1)
  refine (Xk9 B _ vs _ HV.out hB ok1).mono ?_
  rintro e w1 ⟨lo1,t,x,rfl,hl1,hl1',hv1,hb1⟩
  have z1:=hb1.size
  obtain ⟨p1,p2,_,p4⟩:=K2 ok1
  have ht:=ValIs.tree (by omega) p2 p4 p1.2 (by omega) hv1
  have HFIT:=Xb (Xwj ok1 vs.length (vs.length-1) (by omega))
  have H16:=Xb (Xmz ok1 false (f:=vs.length) (i:=vs.length-1) (by omega) (by omega))
  have HPOS:Hid (1≤(Yn false vs.length 0 (Yp vs vs.length (vs.length-1))).length):=by
   obtain ⟨f,hf⟩:∃f,vs.length=f+1:=⟨vs.length-1,by omega⟩
   have:=Xgx ok1 false f 0 (i:=vs.length-1) (by omega)
   rw[←hf] at this
   exact this
  have HB1:=Xb hb1
  have HT2:Hid (TreeAt w1.heap.size (w1.alloc (.cells #[.pointer none, .slice none 0 0, .bool false] 166)) vs.length (Yp vs vs.length (vs.length-1)) (.iface t x)):=TreeAt.keep (fun c hc=>Below.heap_alloc _ _ _ hc) (Nat.le_refl _) ht
  have HFB:=Xb (Xwb w1 false)
  have HBW:Hid (Below w1.heap.size w1 (w1.alloc (.cells #[.pointer none, .slice none 0 0, .bool false] 166))):=(Below.refl _ _).alloc (Nat.le_refl _) _
  have HTB:Hid (TabB w1.heap.size (w1.alloc (.cells #[.pointer none, .slice none 0 0, .bool false] 166))):=((HTAB.out.next HB1.out).wide z1).next HBW.out
  clear hv1 p2 p4 hb1 ht
  go_wp2_with fail
  refine (Xmu w1.heap.size w1.heap.size false Xwa vs.length 0 _ _ [] _ HFB.out HT2.out HFIT.out HTB.out (by simp) (by omega) (by rw[List.nil_append];have:=H16.out;omega)).mono ?_
  rintro e w3 ⟨rfl,f3,b3,_⟩
  rw[List.nil_append] at f3
  have HF3:=Xb f3
  have HB3:=Xb (HBW.out.trans b3)
  clear f3 b3
  go_wp2_with fail
  refine (Xg2 HF3.out (fun e=>by have:=HPOS.out;rw[e] at this;simp at this)).mono ?_
  rintro e w4 ⟨rfl,b4⟩
  have HB4:=Xb (HB1.out.trans ((HB3.out.trans b4).mono z1))
  clear b4
  go_wp2_with fail
  go_ret
  exact ⟨by rw[HP.out];simp,HB4.out⟩
end Go.Proofs.YtehihemfepbmfaaGreatDoor
