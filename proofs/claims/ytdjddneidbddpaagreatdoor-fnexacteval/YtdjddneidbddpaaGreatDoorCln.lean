import Derived.Test.YtdjddneidbddpaaGreatDoorIMinA
import Derived.Test.YtdjddneidbddpaaGreatDoorPsZ
import Derived.Lib.SliceRun
namespace Go.Proofs.YtdjddneidbddpaaGreatDoor
set_option linter.unusedSectionVars false
set_option maxRecDepth 100000
set_option maxHeartbeats 1600000
open Go.RowKit
set_option linter.unusedSimpArgs false
set_option linter.unusedVariables false
theorem Xn0:(Tryz.prog.info? 9).map (fun i=>(i.zero,i.size,i.bytes))=some (some (.string ByteArray.empty),1,16):=by kernel_rfl
theorem Xn1 (B:Nat) (v:Value) (l:List ByteArray) (w:World) (h:StrsAt B w v l) (hB:B<=w.heap.size):
  Calls Tryz.prog 200 #[v] w fun e w'=>∃r,e= .returned r/\w'.ownsRow w.heap.size 9 1 r l.length (l.map .string)/\Below w.heap.size w w':=by
 obtain ⟨hl,_,a,c,rfl,V⟩:=h
 have C:=Xa V
 clear V
 obtain ⟨Y,D,F,G,J⟩:=info_parts Xn0
 cases a with
 |none=>
  have X:l.length=0:=by
   rcases Nat.eq_zero_or_pos l.length with e|e
   ·exact e
   ·obtain ⟨b,o,Z,_⟩:=C.out e
    cases Z
  obtain rfl:l= []:=List.eq_nil_of_length_eq_zero X
  clear C X
  have g:=fun w=>Lib.run_eql_slice_nil (P:=Tryz.prog) w 72 9 none 0 c 0 0 Tryz.underlying72
  go_enter Tryz.func200,Tryz.ntmps200
  go_wp2_with fail
  go_ret
  exact ⟨.slice none 0 0,rfl,World.ownsRow_nil _ _ _ _,Below.refl _ _⟩
 |some ad=>
  have p:Hid ((w.alloc (.cells #[] 9)).ownsRow w.heap.size 9 1 (.slice (some ⟨w.heap.size,0,none⟩) 0 0) 0 []):=by
   have:=World.ownsRow_lit (base:=w.heap.size) (e:=9) (size:=1) w #[] 0 (Nat.le_refl _) (by simp[maxLen]) rfl
   simpa [Hid] using this
  have d:Below w.heap.size w (w.alloc (.cells #[] 9)):=(Below.refl _ _).alloc (Nat.le_refl _) _
  have s:Hid (0<l.length->∃ad',some ad=some ad'/\∀j u,(l.map Value.string)[j]? =some u->(w.alloc (.cells #[] 9)).cell? (ad'.add j)=some u):=by
   intro hp
   obtain ⟨L,M,e,ba,R⟩:=C.out hp
   refine ⟨ad,rfl,fun j u hj=> ?_⟩
   obtain rfl:ad=⟨L,M,none⟩:=by simpa using e
   have t:j<l.length:=by have:=(List.getElem?_eq_some_iff.1 hj).1;simpa using this
   rw[show (⟨L,M,none⟩:Addr).add j=⟨L,M+j,none⟩ by simp[Addr.add],Xc d (by omega),R j t]
   simp[t,Xf] at hj|-
   exact hj
  have S:=Xa d
  clear d
  have g:=fun w=>Lib.run_eql_slice_nil (P:=Tryz.prog) w 72 9 (some ad) l.length c 0 0 Tryz.underlying72
  go_enter Tryz.func200,Tryz.ntmps200
  go_wp2_with (at_builtin;refine Yd rfl _ _ 72 rfl w.heap.size 9 Y (.string ByteArray.empty) 1 16 Tryz.underlying72 D F G J rfl (by decide) _ 0 [] rfl p.out (some ad) l.length c (l.map .string) rfl (by simp) s.out ?c2 ?c3 ?c4 ?c5 ?_)
  case c2=>intro u hu;obtain ⟨q,_,rfl⟩:=List.mem_map.1 hu;rfl
  case c3=>unfold maxLen;omega
  case c4=>omega
  case c5=>simp
  intro v' w2 f y z
  (try simp only[Nat.zero_add,List.nil_append] at f)
  have T:Below w.heap.size w w2:=S.out.grown y (by simp) (fun r hr=>by simp[Value.ownBlock] at hr;omega)
  obtain ⟨ar,cr,er⟩:=Xg f
  subst er
  clear y z
  go_wp2_with fail
  go_ret
  exact ⟨_,rfl,f,T⟩
end Go.Proofs.YtdjddneidbddpaaGreatDoor
