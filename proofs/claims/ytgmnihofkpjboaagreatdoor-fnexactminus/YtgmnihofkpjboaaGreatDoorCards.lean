/-
  DERIVED. GIVEN WITH THE SEED: THE CARDS: each row of YtgmnihofkpjboaaGreatDoorRows.lean that lists a variable, with what it lists TIED to the program's text (the seventh form; the later family's looks); each row that meets fmt, with fmt's text TOLD by the authors' own Lean function (tested against real Go, not proved from fmt's source: count such statements apart). THE CARD IS WHAT COUNTS. Prove the row's statement (the work); the ties are given (YtgmnihofkpjboaaGreatDoorTie.lean); close each card by the builder's one call (the guide's Derived/Test/ToyasCard.lean, 'card_holds'). Laid BY PROGRAM, IN A SANDBOX (cutbox-door.mjs). By AI agents, Wed Nov 11 2026. No macro, syntax, notation, axiom, sorry.
-/
import Derived.Test.YtgmnihofkpjboaaGreatDoorRows
import GoSem.ClaimSeven
namespace Go.Proofs.YtgmnihofkpjboaaGreatDoor
namespace Rows

/-- THE TIED CARD OF 'laws.FnExactMinus'. -/
def fnExactMinusCard : Claim7 := { stood := { row := fnExactMinusRow, standIns := [], harness := (true, "dd77c8fff73096e32f9dc3ed049ea3b98aaf339a3b0fd1d637c30b7cd5a0dd43"), looks := true }, kinds := [], alts := [], laidByText := true, laidKinds := [.handle, .sentinel, .sentinel], laidTests := true, laidLooks := .later }
def FnExactMinusCardSaid : Prop := Claim7.holds Tryz.pinned (.plain (OpenSpec.ofChange fnExactMinusSpec)) fnExactMinusCard

/-- THE SECOND FORM's CARD OF 'laws.FnExactMinus'. -/
def fnExactMinusUptoCard : Claim7 := { stood := { row := fnExactMinusUptoRow, standIns := [], harness := (true, "dd77c8fff73096e32f9dc3ed049ea3b98aaf339a3b0fd1d637c30b7cd5a0dd43"), looks := true }, kinds := [], alts := [], laidByText := true, laidKinds := [.handle, .sentinel, .sentinel], laidTests := true, laidLooks := .later }
def FnExactMinusUptoCardSaid : Prop := Claim7.holds Tryz.pinned (.plain (OpenSpec.upto fnExactMinusSpec)) fnExactMinusUptoCard
end Rows
end Go.Proofs.YtgmnihofkpjboaaGreatDoor
