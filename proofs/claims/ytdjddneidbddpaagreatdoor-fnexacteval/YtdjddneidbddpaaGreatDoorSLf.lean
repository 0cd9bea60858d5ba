import Derived.Test.YtdjddneidbddpaaGreatDoorPsZ
import Derived.Test.YtdjddneidbddpaaGreatDoorRdL
namespace Go.Proofs.YtdjddneidbddpaaGreatDoor
set_option linter.unusedSectionVars false
set_option maxRecDepth 100000
open Go.RowKit
set_option linter.unusedSimpArgs false
set_option linter.unusedVariables false
theorem Xw3 (w:World):Calls Tryz.prog 55 #[] w fun e w'=>e= .returned (.slice (some ⟨w.heap.size,0,none⟩) 1 1)/\Nest w.heap.size w' (.slice (some ⟨w.heap.size,0,none⟩) 1 1) (Xr 1 0 ByteArray.empty) (fun _=> .slice none 0 0) (fun _=> .slice none 0 0)/\Below w.heap.size w w':=by
 go_enter Tryz.func55,Tryz.ntmps55
 go_wp2_with fail
 go_ret
 exact ⟨rfl,Vt w 1 0 ⟨#[]⟩,(Below.refl _ _).alloc (Nat.le_refl _) _⟩
theorem Xw4 (b:Bool) (w:World):Calls Tryz.prog 80 #[.bool b] w fun e w'=>e= .returned (.slice (some ⟨w.heap.size,0,none⟩) 1 1)/\Nest w.heap.size w' (.slice (some ⟨w.heap.size,0,none⟩) 1 1) (Xr 2 (if b=true then 1 else 0) ByteArray.empty) (fun _=> .slice none 0 0) (fun _=> .slice none 0 0)/\Below w.heap.size w w':=by
 cases b
 ·go_enter Tryz.func80,Tryz.ntmps80
  go_wp2_with fail
  go_ret
  exact ⟨rfl,Vt w 2 0 ⟨#[]⟩,(Below.refl _ _).alloc (Nat.le_refl _) _⟩
 ·go_enter Tryz.func80,Tryz.ntmps80
  go_wp2_with fail
  go_ret
  exact ⟨rfl,Vt w 2 1 ⟨#[]⟩,(Below.refl _ _).alloc (Nat.le_refl _) _⟩
theorem Xrb (n:Int) (w:World):Calls Tryz.prog 98 #[.int .i64 n] w fun e w'=>e= .returned (.slice (some ⟨w.heap.size,0,none⟩) 1 1)/\Nest w.heap.size w' (.slice (some ⟨w.heap.size,0,none⟩) 1 1) (Xr 3 n ByteArray.empty) (fun _=> .slice none 0 0) (fun _=> .slice none 0 0)/\Below w.heap.size w w':=by
 go_enter Tryz.func98,Tryz.ntmps98
 go_wp2_with fail
 go_ret
 exact ⟨rfl,Vt w 3 n ⟨#[]⟩,(Below.refl _ _).alloc (Nat.le_refl _) _⟩
theorem Xw5 (s:ByteArray) (w:World):Calls Tryz.prog 100 #[.string s] w fun e w'=>e= .returned (.slice (some ⟨w.heap.size,0,none⟩) 1 1)/\Nest w.heap.size w' (.slice (some ⟨w.heap.size,0,none⟩) 1 1) (Xr 4 0 s) (fun _=> .slice none 0 0) (fun _=> .slice none 0 0)/\Below w.heap.size w w':=by
 go_enter Tryz.func100,Tryz.ntmps100
 go_wp2_with fail
 go_ret
 exact ⟨rfl,Vt w 4 0 s,(Below.refl _ _).alloc (Nat.le_refl _) _⟩
end Go.Proofs.YtdjddneidbddpaaGreatDoor
