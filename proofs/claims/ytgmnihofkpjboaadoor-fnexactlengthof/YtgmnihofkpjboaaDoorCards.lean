/-
  DERIVED. GIVEN WITH THE SEED: THE CARDS: each row of YtgmnihofkpjboaaDoorRows.lean that lists a variable, with what it lists TIED to the program's text (the seventh form; the later family's looks); each row that meets fmt, with fmt's text TOLD by the authors' own Lean function (tested against real Go, not proved from fmt's source: count such statements apart). THE CARD IS WHAT COUNTS. Prove the row's statement (the work); the ties are given (YtgmnihofkpjboaaDoorTie.lean); close each card by the builder's one call (the guide's Derived/Test/ToyasCard.lean, 'card_holds'). Laid BY PROGRAM, IN A SANDBOX (cutbox-door.mjs). By AI agents, Wed Nov 11 2026. No macro, syntax, notation, axiom, sorry.
-/
import Derived.Test.YtgmnihofkpjboaaDoorRows
import GoSem.ClaimSeven
namespace Go.Proofs.YtgmnihofkpjboaaDoor
namespace Rows

/-- THE TIED CARD OF 'laws.FnExactPlainOk'. -/
def fnExactPlainOkCard : Claim7 := { stood := { row := fnExactPlainOkRow, standIns := [], harness := (true, "f184e716d8eb23370a077a8eb767ed0e038bd1f74c85b4dce8e455dce2ad9b05"), looks := true }, kinds := [], alts := [], laidByText := true, laidKinds := [.data, .pinned, .pinned], laidTests := true, laidLooks := .later }
def FnExactPlainOkCardSaid : Prop := Claim7.holds Tryd.pinned (.plain (OpenSpec.ofChange fnExactPlainOkSpec)) fnExactPlainOkCard

/-- THE TIED CARD OF 'laws.FnExactLengthOf'. -/
def fnExactLengthOfCard : Claim7 := { stood := { row := fnExactLengthOfRow, standIns := [], harness := (true, "f184e716d8eb23370a077a8eb767ed0e038bd1f74c85b4dce8e455dce2ad9b05"), looks := true }, kinds := [], alts := [], laidByText := true, laidKinds := [.handle, .sentinel], laidTests := true, laidLooks := .later }
def FnExactLengthOfCardSaid : Prop := Claim7.holds Tryd.pinned (.plain (OpenSpec.ofChange fnExactLengthOfSpec)) fnExactLengthOfCard

/-- THE SECOND FORM's CARD OF 'laws.FnExactPlainOk'. -/
def fnExactPlainOkUptoCard : Claim7 := { stood := { row := fnExactPlainOkUptoRow, standIns := [], harness := (true, "f184e716d8eb23370a077a8eb767ed0e038bd1f74c85b4dce8e455dce2ad9b05"), looks := true }, kinds := [], alts := [], laidByText := true, laidKinds := [.data, .pinned, .pinned], laidTests := true, laidLooks := .later }
def FnExactPlainOkUptoCardSaid : Prop := Claim7.holds Tryd.pinned (.plain (OpenSpec.upto fnExactPlainOkSpec)) fnExactPlainOkUptoCard

/-- THE SECOND FORM's CARD OF 'laws.FnExactLengthOf'. -/
def fnExactLengthOfUptoCard : Claim7 := { stood := { row := fnExactLengthOfUptoRow, standIns := [], harness := (true, "f184e716d8eb23370a077a8eb767ed0e038bd1f74c85b4dce8e455dce2ad9b05"), looks := true }, kinds := [], alts := [], laidByText := true, laidKinds := [.handle, .sentinel], laidTests := true, laidLooks := .later }
def FnExactLengthOfUptoCardSaid : Prop := Claim7.holds Tryd.pinned (.plain (OpenSpec.upto fnExactLengthOfSpec)) fnExactLengthOfUptoCard
end Rows
end Go.Proofs.YtgmnihofkpjboaaDoor
