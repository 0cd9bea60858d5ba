import Derived.Test.YtdjddneidbddpaaGreatDoorSPlsL
import Derived.Test.YtdjddneidbddpaaGreatDoorSGot
namespace Go.Proofs.YtdjddneidbddpaaGreatDoor
set_option linter.unusedSectionVars false
open Go.RowKit
set_option linter.unusedSimpArgs false
set_option linter.unusedVariables false
theorem X2r {x:VN} {key:ByteArray} (h6:x.kind=6):decide (Jt (Q8 x ⟨true,key,0⟩)<0)= !Y5 x.keys key:=by
 unfold Q8 G8
 simp only[h6]
 cases h:Y5 x.keys key
 ·simp[Jt,h]
 ·simp[Jt,h]
  try omega
theorem Xq0 {us vs:List VN} (h1:okB us=true) (h2:okB vs=true) (hk1:(Xd us).kind=6) (hk2:(Xd vs).kind=6) (hfu:∀i,i<us.length→Fits (Xb us i)) (hfv:∀i,i<vs.length→Fits (Xb vs i)) {ns:List ByteArray} {ps:List Nat}
  (hs:Ze (Zg us vs) (Zg us vs).length=some (ns,ps)) (hs1:∀i,i<ns.length→(Xh ns i).size≤140737488355328):
  Z9 us vs=Yn 6 ns (fun j=>J1 us vs (ps.getD j 0)) (Y4 us vs)∧(∀i,i<Y4 us vs→ps.getD i 0<Y4 us vs)∧(Z9 us vs).length≤16001∧∀i,i<(Z9 us vs).length→Xdw (Xb (Z9 us vs) i):=by
 have hl:=Xen (us:=us) h2 hk2
 have h160:=Xdz h1 h2 hk1 hk2
 have e:Z9 us vs=Yn 6 ns (fun j=>J1 us vs (ps.getD j 0)) (Y4 us vs):=by unfold Z9;rw[hs]
 have hln:=Gr hs
 rw[hl] at hln
 have hp:∀i,i<Y4 us vs→ps.getD i 0<Y4 us vs:=fun i hi=>by
  have:=Gs hs (ps.getD i 0) (by
   rw[List.getD_eq_getElem?_getD,List.getElem?_eq_getElem (by omega)]
   exact List.getElem_mem _)
  omega
 have p1:=Kz hfu
 have p2:=Kz hfv
 have e1:Zm us=(Xe us).length:=by unfold Zm;rw[if_pos h1]
 have e2:Zm vs=(Xe vs).length:=by unfold Zm;rw[if_pos h2]
 rw[e1] at p1
 rw[e2] at p2
 refine ⟨e,hp, ?_⟩
 rw[e]
 refine Gh (by omega) (fun i hi=>Xhq h1 h2 hk1 _ (hp i hi)) (fun i hi=> ?_) (by omega) (by omega) (by omega) hs1
 have hq:=hp i hi
 unfold Y4 at hq
 unfold J1
 split
 ·rename_i h;exact (p2.2 _ h).2
 ·rename_i h;exact (p1.2 _ (Xbp h1 hk1 (by omega))).2
end Go.Proofs.YtdjddneidbddpaaGreatDoor
