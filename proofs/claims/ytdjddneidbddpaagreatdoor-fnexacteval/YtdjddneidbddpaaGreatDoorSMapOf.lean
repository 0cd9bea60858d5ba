import Derived.Test.YtdjddneidbddpaaGreatDoorSeQ
import Derived.Test.YtdjddneidbddpaaGreatDoorSSort
import Derived.Deep.Slices
namespace Go.Proofs.YtdjddneidbddpaaGreatDoor
set_option linter.unusedSectionVars false
open Go.RowKit
set_option linter.unusedSimpArgs false
set_option linter.unusedVariables false
theorem Xv4 {base B:Nat} {w:World} {v:Value} {ps:List Nat} {cs:Nat->Value} {L:Nat->List VN} {m:Nat} (h:w.ownsRow base 25 1 v ps.length (ps.map cs)) (hl:ps.length=m) (hm:m<=1048576) (hB:B<=w.heap.size) (hps:∀x∈ps,x<m) (hc:∀i,i<m->NodesAt B w (cs i) (L i)):Uv w.heap.size w v m (fun j=>L (ps.getD j 0)):=by
 obtain ⟨a,c,e⟩:=Xg h
 subst e
 rw[hl] at h|-
 refine ⟨hm,a,c,rfl,fun hp=> ?_⟩
 obtain ⟨g,d,e,_,b⟩:=h.form hp
 cases e
 refine ⟨g,rfl,b,fun i hi=>⟨cs (ps.getD i 0), ?_, ?_⟩⟩
 ·rw[h.cellAt i (by omega)]
  rw[List.getElem?_map,List.getElem?_eq_getElem (by omega),List.getD_eq_getElem?_getD,List.getElem?_eq_getElem (by omega)]
  rfl
 ·refine (hc _ ?_).wide hB
  apply hps
  rw[List.getD_eq_getElem?_getD,List.getElem?_eq_getElem (by omega)]
  exact List.getElem_mem _
end Go.Proofs.YtdjddneidbddpaaGreatDoor
