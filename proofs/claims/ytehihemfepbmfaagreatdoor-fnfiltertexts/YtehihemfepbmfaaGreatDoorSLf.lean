import Derived.Test.YtehihemfepbmfaaGreatDoorLeaf
import Derived.Test.YtehihemfepbmfaaGreatDoorGupN
namespace Go.Proofs.YtehihemfepbmfaaGreatDoor
set_option linter.unusedSectionVars false
open Go.RowKit
set_option linter.unusedSimpArgs false
set_option linter.unusedVariables false
set_option maxRecDepth 100000 in
theorem Xr3 (w:World):Calls Tryz.prog 154 #[] w fun e w'=>e= .returned (.slice (some ⟨w.heap.size,0,none⟩) 1 1)∧Nest w.heap.size w' (.slice (some ⟨w.heap.size,0,none⟩) 1 1) (U1 1 0 ByteArray.empty) (fun _=> .slice none 0 0) (fun _=> .slice none 0 0)∧Below w.heap.size w w':=by
 go_enter Tryz.func154,Tryz.ntmps154
 go_wp2_with fail
 go_ret
 exact ⟨rfl,Ww w 1 0 ⟨#[]⟩,(Below.refl _ _).alloc (Nat.le_refl _) _⟩
set_option maxRecDepth 100000 in
theorem Xhr (b:Bool) (w:World):Calls Tryz.prog 155 #[.bool b] w fun e w'=>e= .returned (.slice (some ⟨w.heap.size,0,none⟩) 1 1)∧Nest w.heap.size w' (.slice (some ⟨w.heap.size,0,none⟩) 1 1) (U1 2 (if b=true then 1 else 0) ByteArray.empty) (fun _=> .slice none 0 0) (fun _=> .slice none 0 0)∧Below w.heap.size w w':=by
 cases b
 ·go_enter Tryz.func155,Tryz.ntmps155
  go_wp2_with fail
  go_ret
  exact ⟨rfl,Ww w 2 0 ⟨#[]⟩,(Below.refl _ _).alloc (Nat.le_refl _) _⟩
 ·go_enter Tryz.func155,Tryz.ntmps155
  go_wp2_with fail
  go_ret
  exact ⟨rfl,Ww w 2 1 ⟨#[]⟩,(Below.refl _ _).alloc (Nat.le_refl _) _⟩
set_option maxRecDepth 100000 in
theorem Xd9 (n:Int) (w:World):Calls Tryz.prog 121 #[.int .i64 n] w fun e w'=>e= .returned (.slice (some ⟨w.heap.size,0,none⟩) 1 1)∧Nest w.heap.size w' (.slice (some ⟨w.heap.size,0,none⟩) 1 1) (U1 3 n ByteArray.empty) (fun _=> .slice none 0 0) (fun _=> .slice none 0 0)∧Below w.heap.size w w':=by
 go_enter Tryz.func121,Tryz.ntmps121
 go_wp2_with fail
 go_ret
 exact ⟨rfl,Ww w 3 n ⟨#[]⟩,(Below.refl _ _).alloc (Nat.le_refl _) _⟩
set_option maxRecDepth 100000 in
theorem Xhs (s:ByteArray) (w:World):Calls Tryz.prog 118 #[.string s] w fun e w'=>e= .returned (.slice (some ⟨w.heap.size,0,none⟩) 1 1)∧Nest w.heap.size w' (.slice (some ⟨w.heap.size,0,none⟩) 1 1) (U1 4 0 s) (fun _=> .slice none 0 0) (fun _=> .slice none 0 0)∧Below w.heap.size w w':=by
 go_enter Tryz.func118,Tryz.ntmps118
 go_wp2_with fail
 go_ret
 exact ⟨rfl,Ww w 4 0 s,(Below.refl _ _).alloc (Nat.le_refl _) _⟩
end Go.Proofs.YtehihemfepbmfaaGreatDoor
