/-
  The program's jsonWriter: lines, keys, and what a number, a Boolean and a text are written as.
-/
import Derived.Test.YtehihemfepbmfaaGreatDoorIQuo
import Derived.Test.YtehihemfepbmfaaGreatDoorSJt
import Derived.Test.YtehihemfepbmfaaGreatDoorVAt
import Derived.Test.YtehihemfepbmfaaGreatDoorGBld
import Derived.Test.YtehihemfepbmfaaGreatDoorFmt
import Derived.Test.YtehihemfepbmfaaGreatDoorTw
import Derived.Test.YtehihemfepbmfaaGreatDoorUneP
namespace Go.Proofs.YtehihemfepbmfaaGreatDoor
open Go.RowKit
set_option linter.unusedSimpArgs false
set_option linter.unusedVariables false

/-- The table of powers of ten stands, whatever is made from block 'B' on. -/
def TabB (B : Nat) (w : World) : Prop := ∀ w', Below B w w' → Lib.TabIs Tryz.prog w' "internal/strconv.uint64pow10" .u64 Lib.pow10Tab
theorem TabB.next {B : Nat} {w w' : World} (h : TabB B w) (hb : Below B w w') : TabB B w' := fun w2 h2 => h w2 (hb.trans h2)
theorem TabB.wide {B C : Nat} {w : World} (h : TabB B w) (hBC : B ≤ C) : TabB C w := fun w2 h2 => h w2 (h2.mono hBC)
theorem FB.lines {T : TypeId} {B b : Nat} {x : Bool} {l : List UInt8} {w : World} (h : FB T B b [.bool x] l w) : w.cell? ⟨b, 2, none⟩ = some (.bool x) := by
  obtain ⟨_, p, v, _, hb, _⟩ := h
  exact cellAt hb rfl
end Go.Proofs.YtehihemfepbmfaaGreatDoor

/-
  The program's jsonWriter.write: JSON's bytes of a value.
-/
namespace Go.Proofs.YtehihemfepbmfaaGreatDoor
open Go.RowKit
set_option linter.unusedSimpArgs false
set_option linter.unusedVariables false

end Go.Proofs.YtehihemfepbmfaaGreatDoor
