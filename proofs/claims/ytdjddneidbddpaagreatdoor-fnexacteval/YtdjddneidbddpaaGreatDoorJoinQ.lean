import Derived.Test.YtdjddneidbddpaaGreatDoorSPlsL
import Derived.Test.YtdjddneidbddpaaGreatDoorSGot
namespace Go.Proofs.YtdjddneidbddpaaGreatDoor
set_option linter.unusedSectionVars false
open Go.RowKit
set_option linter.unusedSimpArgs false
set_option linter.unusedVariables false
theorem X2m {x:VN} {key:ByteArray} (h6:x.kind=6):decide (Jm (Q1 x ⟨true,key,0⟩)<0)= !Y0 x.keys key:=by
 unfold Q1 Gx
 simp only[h6]
 cases h:Y0 x.keys key
 ·simp[Jm,h]
 ·simp[Jm,h]
  try omega
theorem Xqr {us vs:List VN} (h1:okB us=true) (h2:okB vs=true) (hk1:(Xd us).kind=6) (hk2:(Xd vs).kind=6) (hfu:∀i,i<us.length->Fits (Xb us i)) (hfv:∀i,i<vs.length->Fits (Xb vs i)) {ns:List ByteArray} {ps:List Nat}
  (hs:Y9 (Zc us vs) (Zc us vs).length=some (ns,ps)) (hs1:∀i,i<ns.length->(Xf ns i).size<=140737488355328):
  Z8 us vs=Yj 6 ns (fun j=>Ju us vs (ps.getD j 0)) (Yy us vs)/\(∀i,i<Yy us vs->ps.getD i 0<Yy us vs)/\(Z8 us vs).length<=16001/\∀i,i<(Z8 us vs).length->Xdk (Xb (Z8 us vs) i):=by
 have l:=Xec (us:=us) h2 hk2
 have d:=Xdn h1 h2 hk1 hk2
 have e:Z8 us vs=Yj 6 ns (fun j=>Ju us vs (ps.getD j 0)) (Yy us vs):=by unfold Z8;rw[hs]
 have b:=Gm hs
 rw[l] at b
 have c:∀i,i<Yy us vs->ps.getD i 0<Yy us vs:=fun i hi=>by
  have:=Gn hs (ps.getD i 0) (by
   rw[List.getD_eq_getElem?_getD,List.getElem?_eq_getElem (by omega)]
   exact List.getElem_mem _)
  omega
 have f:=Kv hfu
 have g:=Kv hfv
 have o:Zl us=(Xe us).length:=by unfold Zl;rw[if_pos h1]
 have p:Zl vs=(Xe vs).length:=by unfold Zl;rw[if_pos h2]
 rw[o] at f
 rw[p] at g
 refine ⟨e,c, ?_⟩
 rw[e]
 refine Gd (by omega) (fun i hi=>Xhf h1 h2 hk1 _ (c i hi)) (fun i hi=> ?_) (by omega) (by omega) (by omega) hs1
 have q:=c i hi
 unfold Yy at q
 unfold Ju
 split
 ·rename_i h;exact (g.2 _ h).2
 ·rename_i h;exact (f.2 _ (Xbd h1 hk1 (by omega))).2
end Go.Proofs.YtdjddneidbddpaaGreatDoor
