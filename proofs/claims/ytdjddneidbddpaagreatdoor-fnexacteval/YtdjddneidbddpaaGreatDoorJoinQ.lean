import Derived.Test.YtdjddneidbddpaaGreatDoorSPlsL
import Derived.Test.YtdjddneidbddpaaGreatDoorSGot
namespace Go.Proofs.YtdjddneidbddpaaGreatDoor
set_option linter.unusedSectionVars false
open Go.RowKit
set_option linter.unusedSimpArgs false
set_option linter.unusedVariables false
theorem X2j {x:VN} {key:ByteArray} (h6:x.kind=6):decide (Jj (Qy x ⟨true,key,0⟩)<0)= !Yz x.keys key:=by
 unfold Qy Gw
 simp only[h6]
 cases h:Yz x.keys key
 ·simp[Jj,h]
 ·simp[Jj,h]
  try omega
theorem Xqi {us vs:List VN} (h1:okB us=true) (h2:okB vs=true) (hk1:(Xd us).kind=6) (hk2:(Xd vs).kind=6) (hfu:∀i,i<us.length->Fits (Xb us i)) (hfv:∀i,i<vs.length->Fits (Xb vs i)) {ns:List ByteArray} {ps:List Nat}
  (hs:Zf (Zb us vs) (Zb us vs).length=some (ns,ps)) (hs1:∀i,i<ns.length->(Xf ns i).size<=140737488355328):
  Z6 us vs=Yi 6 ns (fun j=>Js us vs (ps.getD j 0)) (Yx us vs)/\(∀i,i<Yx us vs->ps.getD i 0<Yx us vs)/\(Z6 us vs).length<=16001/\∀i,i<(Z6 us vs).length->Xdd (Xb (Z6 us vs) i):=by
 have l:=Xd2 (us:=us) h2 hk2
 have d:=Xdg h1 h2 hk1 hk2
 have e:Z6 us vs=Yi 6 ns (fun j=>Js us vs (ps.getD j 0)) (Yx us vs):=by unfold Z6;rw[hs]
 have b:=Gl hs
 rw[l] at b
 have c:∀i,i<Yx us vs->ps.getD i 0<Yx us vs:=fun i hi=>by
  have:=Gm hs (ps.getD i 0) (by
   rw[List.getD_eq_getElem?_getD,List.getElem?_eq_getElem (by omega)]
   exact List.getElem_mem _)
  omega
 have f:=Ks hfu
 have g:=Ks hfv
 have o:Zl us=(Xe us).length:=by unfold Zl;rw[if_pos h1]
 have p:Zl vs=(Xe vs).length:=by unfold Zl;rw[if_pos h2]
 rw[o] at f
 rw[p] at g
 refine ⟨e,c, ?_⟩
 rw[e]
 refine Gc (by omega) (fun i hi=>Xg9 h1 h2 hk1 _ (c i hi)) (fun i hi=> ?_) (by omega) (by omega) (by omega) hs1
 have q:=c i hi
 unfold Yx at q
 unfold Js
 split
 ·rename_i h;exact (g.2 _ h).2
 ·rename_i h;exact (f.2 _ (Xa9 h1 hk1 (by omega))).2
end Go.Proofs.YtdjddneidbddpaaGreatDoor
