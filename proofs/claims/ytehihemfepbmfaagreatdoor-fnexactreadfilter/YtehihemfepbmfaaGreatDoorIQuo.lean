/-
  The program's quoted.
-/
import Derived.Test.YtehihemfepbmfaaGreatDoorSDig
import Derived.Test.YtehihemfepbmfaaGreatDoorBld
import Derived.Test.YtehihemfepbmfaaGreatDoorUneP
import Derived.Test.YtehihemfepbmfaaGreatDoorIxB
namespace Go.Proofs.YtehihemfepbmfaaGreatDoor
open Go.RowKit Go.WideShapes
set_option linter.unusedSimpArgs false
set_option linter.unusedVariables false
/-- While the builder of block 'w.heap.size' is being written. -/
structure WrQ (w : World) (l : List UInt8) (wr : World) : Prop where
  bld : BldAt w.heap.size w.heap.size l wr
  bel : Below w.heap.size w wr
theorem WrQ.byte {w wr : World} {l : List UInt8} (h : WrQ w l wr) (x : UInt8) (hlen : l.length + 1 ≤ 140737488355328) :
    Calls Tryz.prog 131 #[.pointer (some ⟨w.heap.size, 0, none⟩), .int .u8 (x.toNat : Int)] wr fun e w' => e = .returned .nilIface ∧ WrQ w (l ++ [x]) w' := by
  refine (bld_byte h.bld x hlen h.bel.size).mono ?_
  rintro e w' ⟨rfl, h1, h2, _⟩
  exact ⟨rfl, h1, h.bel.trans h2⟩
theorem WrQ.text {w wr : World} {l : List UInt8} (h : WrQ w l wr) (s : ByteArray) (hlen : l.length + s.size ≤ 140737488355328) :
    Calls Tryz.prog 92 #[.pointer (some ⟨w.heap.size, 0, none⟩), .string s] wr fun e w' => e = .returned (.tuple #[.int .i64 s.size, .nilIface]) ∧ WrQ w (l ++ s.data.toList) w' := by
  refine (bld_text h.bld s hlen h.bel.size).mono ?_
  rintro e w' ⟨rfl, h1, h2, _⟩
  exact ⟨rfl, h1, h.bel.trans h2⟩
theorem WrQ.two {w wr : World} {l : List UInt8} (h : WrQ w l wr) (x y : UInt8) (hlen : l.length + 2 ≤ 140737488355328) :
    Calls Tryz.prog 92 #[.pointer (some ⟨w.heap.size, 0, none⟩), .string ⟨#[x, y]⟩] wr fun e w' => e = .returned (.tuple #[.int .i64 2, .nilIface]) ∧ WrQ w (l ++ [x, y]) w' := h.text ⟨#[x, y]⟩ hlen
theorem WrQ.done {w wr : World} {l : List UInt8} (h : WrQ w l wr) :
    Calls Tryz.prog 24 #[.pointer (some ⟨w.heap.size, 0, none⟩)] wr fun e w' => e = .returned (.string (txt l)) ∧ Below w.heap.size w w' := by
  refine (bld_string h.bld h.bel.size).mono ?_
  rintro e w' ⟨rfl, _, h2, _⟩
  exact ⟨rfl, h.bel.trans h2⟩
end Go.Proofs.YtehihemfepbmfaaGreatDoor
