import Derived.Test.YtcidjhnogldgmaaGreatDoorFrFt
import Derived.Test.YtcidjhnogldgmaaGreatDoorFBk
import Derived.Deep.MidRow
import Derived.Deep.Cut
import Derived.Handy
namespace Go.Proofs.YtcidjhnogldgmaaGreatDoor
open Go.RowKit
set_option linter.unusedSimpArgs false
set_option linter.unusedVariables false
def sgnJ (k : Int) : List UInt8 := if k = 23 then [63] else sgnF k
def lftJ (k : Int) : Int := if k = 23 then 6 else lftF k
def rgtJ (k : Int) : Int := if k = 23 then 0 else rgtF k
def jointL (k : Int) : List Value := [.int .i64 k, .string (txt (sgnJ k)), .int .i64 (levF k), .int .i64 (lftJ k), .int .i64 (rgtJ k)]
def jointC : List Value := jointL 6 ++ jointL 7 ++ jointL 21 ++ jointL 17 ++ jointL 18 ++ jointL 19 ++ jointL 20 ++ jointL 15 ++ jointL 16 ++ jointL 23
def JtB (B : Nat) (w : World) : Prop := ∀ w', Below B w w' → w'.rangeAt 1 0 jointC
theorem JtB.next {B : Nat} {w w' : World} (h : JtB B w) (hb : Below B w w') : JtB B w' := fun w2 h2 => h w2 (hb.trans h2)
theorem j_und : Tryz.prog.underlying 117 = some (.array 10 116) := by kernel_rfl
theorem j_inf : (Tryz.prog.info? 117).map (·.size) = some jointC.length := by kernel_rfl
theorem jix0 (W : World) : (Instr.index 117 (.agg jointC.toArray) (.int .i64 0)).run Tryz.prog W = .ok (.agg (jointL 6).toArray) W := by kernel_rfl
theorem jix1 (W : World) : (Instr.index 117 (.agg jointC.toArray) (.int .i64 1)).run Tryz.prog W = .ok (.agg (jointL 7).toArray) W := by kernel_rfl
theorem jix2 (W : World) : (Instr.index 117 (.agg jointC.toArray) (.int .i64 2)).run Tryz.prog W = .ok (.agg (jointL 21).toArray) W := by kernel_rfl
theorem jix3 (W : World) : (Instr.index 117 (.agg jointC.toArray) (.int .i64 3)).run Tryz.prog W = .ok (.agg (jointL 17).toArray) W := by kernel_rfl
theorem jix4 (W : World) : (Instr.index 117 (.agg jointC.toArray) (.int .i64 4)).run Tryz.prog W = .ok (.agg (jointL 18).toArray) W := by kernel_rfl
theorem jix5 (W : World) : (Instr.index 117 (.agg jointC.toArray) (.int .i64 5)).run Tryz.prog W = .ok (.agg (jointL 19).toArray) W := by kernel_rfl
theorem jix6 (W : World) : (Instr.index 117 (.agg jointC.toArray) (.int .i64 6)).run Tryz.prog W = .ok (.agg (jointL 20).toArray) W := by kernel_rfl
theorem jix7 (W : World) : (Instr.index 117 (.agg jointC.toArray) (.int .i64 7)).run Tryz.prog W = .ok (.agg (jointL 15).toArray) W := by kernel_rfl
theorem jix8 (W : World) : (Instr.index 117 (.agg jointC.toArray) (.int .i64 8)).run Tryz.prog W = .ok (.agg (jointL 16).toArray) W := by kernel_rfl
theorem jix9 (W : World) : (Instr.index 117 (.agg jointC.toArray) (.int .i64 9)).run Tryz.prog W = .ok (.agg (jointL 23).toArray) W := by kernel_rfl
theorem set5 {W : World} {b : Nat} {c0 c1 c2 c3 c4 a0 a1 a2 a3 a4 : Value} {T : TypeId} {z : Nat × Nat} (hh : W.heap[b]? = some (.cells #[a0, a1, a2, a3, a4] T z)) :
    (((((W.setCell ⟨b, 0, none⟩ c0).setCell ⟨b, 1, none⟩ c1).setCell ⟨b, 2, none⟩ c2).setCell ⟨b, 3, none⟩ c3).setCell ⟨b, 4, none⟩ c4).heap[b]? = some (.cells #[c0, c1, c2, c3, c4] T z) :=
  set_heap (set_heap (set_heap (set_heap (set_heap hh c0) c1) c2) c3) c4
end Go.Proofs.YtcidjhnogldgmaaGreatDoor
