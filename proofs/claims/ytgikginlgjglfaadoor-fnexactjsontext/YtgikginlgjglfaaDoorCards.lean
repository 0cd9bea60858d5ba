/-
  DERIVED. GIVEN WITH THE SEED: THE CARDS: each row of YtgikginlgjglfaaDoorRows.lean that lists a variable, with what it lists TIED to the program's text (the seventh form; the later family's looks); each row that meets fmt, with fmt's text TOLD by the authors' own Lean function (tested against real Go, not proved from fmt's source: count such statements apart). THE CARD IS WHAT COUNTS. Prove the row's statement (the work); the ties are given (YtgikginlgjglfaaDoorTie.lean); close each card by the builder's one call (the guide's Derived/Test/ToyasCard.lean, 'card_holds'). Laid BY PROGRAM, IN A SANDBOX (cutbox-door.mjs). By AI agents, Wed Nov 11 2026. No macro, syntax, notation, axiom, sorry.
-/
import Derived.Test.YtgikginlgjglfaaDoorRows
import GoSem.ClaimSeven
namespace Go.Proofs.YtgikginlgjglfaaDoor
namespace Rows

/-- THE TIED CARD OF 'laws.FnExactJsonText'. -/
def fnExactJsonTextCard : Claim7 := { stood := { row := fnExactJsonTextRow, standIns := [], harness := (true, "0af229771479ade5a02078b7900e79c7518a8e7e6523aa0257817b5813e07fd5"), looks := true }, kinds := [], alts := [], laidByText := true, laidKinds := [.data, .data, .data], laidTests := true, laidLooks := .later }
def FnExactJsonTextCardSaid : Prop := Claim7.holds Tryd.pinned (.plain (OpenSpec.ofChange fnExactJsonTextSpec)) fnExactJsonTextCard

/-- THE TIED CARD OF 'laws.FnExactIndented'. -/
def fnExactIndentedCard : Claim7 := { stood := { row := fnExactIndentedRow, standIns := [], harness := (true, "0af229771479ade5a02078b7900e79c7518a8e7e6523aa0257817b5813e07fd5"), looks := true }, kinds := [], alts := [], laidByText := true, laidKinds := [.data, .data, .data], laidTests := true, laidLooks := .later }
def FnExactIndentedCardSaid : Prop := Claim7.holds Tryd.pinned (.plain (OpenSpec.ofChange fnExactIndentedSpec)) fnExactIndentedCard

/-- THE SECOND FORM's CARD OF 'laws.FnExactJsonText'. -/
def fnExactJsonTextUptoCard : Claim7 := { stood := { row := fnExactJsonTextUptoRow, standIns := [], harness := (true, "0af229771479ade5a02078b7900e79c7518a8e7e6523aa0257817b5813e07fd5"), looks := true }, kinds := [], alts := [], laidByText := true, laidKinds := [.data, .data, .data], laidTests := true, laidLooks := .later }
def FnExactJsonTextUptoCardSaid : Prop := Claim7.holds Tryd.pinned (.plain (OpenSpec.upto fnExactJsonTextSpec)) fnExactJsonTextUptoCard

/-- THE SECOND FORM's CARD OF 'laws.FnExactIndented'. -/
def fnExactIndentedUptoCard : Claim7 := { stood := { row := fnExactIndentedUptoRow, standIns := [], harness := (true, "0af229771479ade5a02078b7900e79c7518a8e7e6523aa0257817b5813e07fd5"), looks := true }, kinds := [], alts := [], laidByText := true, laidKinds := [.data, .data, .data], laidTests := true, laidLooks := .later }
def FnExactIndentedUptoCardSaid : Prop := Claim7.holds Tryd.pinned (.plain (OpenSpec.upto fnExactIndentedSpec)) fnExactIndentedUptoCard
end Rows
end Go.Proofs.YtgikginlgjglfaaDoor
