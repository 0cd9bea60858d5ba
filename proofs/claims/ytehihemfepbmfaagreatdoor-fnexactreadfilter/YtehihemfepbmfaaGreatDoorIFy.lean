/-
  The program's filterWriter: writeAround, writeList, writeJoined.
-/
import Derived.Test.YtehihemfepbmfaaGreatDoorIFj
import Derived.Test.YtehihemfepbmfaaGreatDoorIJson
import Derived.Deep.RegionHeld3
namespace Go.Proofs.YtehihemfepbmfaaGreatDoor
open Go.RowKit
set_option linter.unusedSimpArgs false
set_option linter.unusedVariables false

def wordC : List Value := [.int .i64 11, .string (txt [108, 101, 110, 103, 116, 104]), .int .i64 12, .string (txt [107, 101, 121, 115]), .int .i64 13, .string (txt [110, 111, 116]), .int .i64 14, .string (txt [101, 109, 112, 116, 121])]
/-- The table of words lies there, and stays. -/
def WdB (B : Nat) (w : World) : Prop := ∀ w', Below B w w' → w'.rangeAt 1 0 wordC
theorem WdB.next {B : Nat} {w w' : World} (h : WdB B w) (hb : Below B w w') : WdB B w' := fun w2 h2 => h w2 (hb.trans h2)
/-- What the writer reads. -/
structure FwP (B : Nat) (F : Value) (fs : List FN) (w : World) : Prop where
  nodes : FNodesAt B w F fs
  jt : JtB B w
  wd : WdB B w
  tab : TabB B w
  hB : B ≤ w.heap.size
theorem FwP.next {B : Nat} {F : Value} {fs : List FN} {w w' : World} (h : FwP B F fs w) (hb : Below B w w') : FwP B F fs w' :=
  ⟨h.nodes.below hb, h.jt.next hb, h.wd.next hb, h.tab.next hb, Nat.le_trans h.hB hb.size⟩
end Go.Proofs.YtehihemfepbmfaaGreatDoor

/-
  The program's filterWriter: writeJoined.
-/
namespace Go.Proofs.YtehihemfepbmfaaGreatDoor
open Go.RowKit
set_option linter.unusedSimpArgs false
set_option linter.unusedVariables false

end Go.Proofs.YtehihemfepbmfaaGreatDoor

/-
  The program's filterWriter: writeMap.
-/
namespace Go.Proofs.YtehihemfepbmfaaGreatDoor
open Go.RowKit
set_option linter.unusedSimpArgs false
set_option linter.unusedVariables false

end Go.Proofs.YtehihemfepbmfaaGreatDoor

/-
  The program's filterWriter: writeWhole at single kinds.
-/
namespace Go.Proofs.YtehihemfepbmfaaGreatDoor
open Go.RowKit
set_option linter.unusedSimpArgs false
set_option linter.unusedVariables false

def wkF (i : Nat) : Int := [11, 12, 13, 14].getD i 0
theorem w_und : Tryz.prog.underlying 133 = some (.array 4 132) := by kernel_rfl
theorem w_inf : (Tryz.prog.info? 133).map (·.size) = some wordC.length := by kernel_rfl
theorem wix0 (W : World) : (Instr.index 133 (.agg wordC.toArray) (.int .i64 0)).run Tryz.prog W = .ok (.agg #[.int .i64 11, .string (txt [108, 101, 110, 103, 116, 104])]) W := by kernel_rfl
theorem wix1 (W : World) : (Instr.index 133 (.agg wordC.toArray) (.int .i64 1)).run Tryz.prog W = .ok (.agg #[.int .i64 12, .string (txt [107, 101, 121, 115])]) W := by kernel_rfl
theorem wix2 (W : World) : (Instr.index 133 (.agg wordC.toArray) (.int .i64 2)).run Tryz.prog W = .ok (.agg #[.int .i64 13, .string (txt [110, 111, 116])]) W := by kernel_rfl
theorem wix3 (W : World) : (Instr.index 133 (.agg wordC.toArray) (.int .i64 3)).run Tryz.prog W = .ok (.agg #[.int .i64 14, .string (txt [101, 109, 112, 116, 121])]) W := by kernel_rfl
end Go.Proofs.YtehihemfepbmfaaGreatDoor
