/-
  DERIVED. GIVEN WITH THE SEED: THE CARDS: each row of YtagcgnhpdmhegaaGreatDoorRows.lean that lists a variable, with what it lists TIED to the program's text (the seventh form; the later family's looks); each row that meets fmt, with fmt's text TOLD by the authors' own Lean function (tested against real Go, not proved from fmt's source: count such statements apart). THE CARD IS WHAT COUNTS. Prove the row's statement (the work); the ties are given (YtagcgnhpdmhegaaGreatDoorTie.lean); close each card by the builder's one call (the guide's Derived/Test/ToyasCard.lean, 'card_holds'). Laid BY PROGRAM, IN A SANDBOX (cutbox-door.mjs). By AI agents, Wed Nov 11 2026. No macro, syntax, notation, axiom, sorry.
-/
import Derived.Test.YtagcgnhpdmhegaaGreatDoorRows
import GoSem.ClaimSeven
namespace Go.Proofs.YtagcgnhpdmhegaaGreatDoor
namespace Rows

/-- THE TIED CARD OF 'laws.FnJson'. -/
def fnJsonCard : Claim7 := { stood := { row := fnJsonRow, standIns := [], harness := (true, "160aac62067e509f1e561cad6f14648d262211494096afdc871edeb12a0b47c4"), looks := true }, kinds := [], alts := [], laidByText := true, laidKinds := [.data, .data, .data], laidTests := true, laidLooks := .later }
def FnJsonCardSaid : Prop := Claim7.holds Tryz.pinned (.plain (OpenSpec.ofChange fnJsonSpec)) fnJsonCard

/-- THE TIED CARD OF 'laws.FnReadJson'. -/
def fnReadJsonCard : Claim7 := { stood := { row := fnReadJsonRow, standIns := [], harness := (true, "160aac62067e509f1e561cad6f14648d262211494096afdc871edeb12a0b47c4"), looks := true }, kinds := [], alts := [], laidByText := true, laidKinds := [.data, .data, .data], laidTests := true, laidLooks := .later }
def FnReadJsonCardSaid : Prop := Claim7.holds Tryz.pinned (.plain (OpenSpec.ofChange fnReadJsonSpec)) fnReadJsonCard

/-- THE SECOND FORM's CARD OF 'laws.FnJson'. -/
def fnJsonUptoCard : Claim7 := { stood := { row := fnJsonUptoRow, standIns := [], harness := (true, "160aac62067e509f1e561cad6f14648d262211494096afdc871edeb12a0b47c4"), looks := true }, kinds := [], alts := [], laidByText := true, laidKinds := [.data, .data, .data], laidTests := true, laidLooks := .later }
def FnJsonUptoCardSaid : Prop := Claim7.holds Tryz.pinned (.plain (OpenSpec.upto fnJsonSpec)) fnJsonUptoCard

/-- THE SECOND FORM's CARD OF 'laws.FnReadJson'. -/
def fnReadJsonUptoCard : Claim7 := { stood := { row := fnReadJsonUptoRow, standIns := [], harness := (true, "160aac62067e509f1e561cad6f14648d262211494096afdc871edeb12a0b47c4"), looks := true }, kinds := [], alts := [], laidByText := true, laidKinds := [.data, .data, .data], laidTests := true, laidLooks := .later }
def FnReadJsonUptoCardSaid : Prop := Claim7.holds Tryz.pinned (.plain (OpenSpec.upto fnReadJsonSpec)) fnReadJsonUptoCard
end Rows
end Go.Proofs.YtagcgnhpdmhegaaGreatDoor
