/-
  DERIVED. GIVEN WITH THE SEED: THE CARDS: each row of YtdjddneidbddpaaGreatDoorRows.lean that lists a variable, with what it lists TIED to the program's text (the seventh form; the later family's looks); each row that meets fmt, with fmt's text TOLD by the authors' own Lean function (tested against real Go, not proved from fmt's source: count such statements apart). THE CARD IS WHAT COUNTS. Prove the row's statement (the work); the ties are given (YtdjddneidbddpaaGreatDoorTie.lean); close each card by the builder's one call (the guide's Derived/Test/ToyasCard.lean, 'card_holds'). Laid BY PROGRAM, IN A SANDBOX (cutbox-door.mjs). By AI agents, Wed Nov 11 2026. No macro, syntax, notation, axiom, sorry.
-/
import Derived.Test.YtdjddneidbddpaaGreatDoorRows
import GoSem.ClaimSeven
namespace Go.Proofs.YtdjddneidbddpaaGreatDoor
namespace Rows

/-- THE TIED CARD OF 'laws.FnEval'. -/
def fnEvalCard : Claim7 := { stood := { row := fnEvalRow, standIns := [], harness := (true, "b3185b90d498cefca07a50a17dd266252de176b5de33e89e8944415be6b9b9cc"), looks := true }, kinds := [], alts := [], laidByText := true, laidKinds := [.handle, .sentinel, .sentinel, .sentinel, .sentinel], laidTests := true, laidLooks := .later }
def FnEvalCardSaid : Prop := Claim7.holds Tryz.pinned (.plain (OpenSpec.ofChange fnEvalSpec)) fnEvalCard

/-- THE TIED CARD OF 'laws.FnExactEval'. -/
def fnExactEvalCard : Claim7 := { stood := { row := fnExactEvalRow, standIns := [], harness := (true, "b3185b90d498cefca07a50a17dd266252de176b5de33e89e8944415be6b9b9cc"), looks := true }, kinds := [], alts := [], laidByText := true, laidKinds := [.handle, .sentinel, .sentinel, .sentinel, .sentinel], laidTests := true, laidLooks := .later }
def FnExactEvalCardSaid : Prop := Claim7.holds Tryz.pinned (.plain (OpenSpec.ofChange fnExactEvalSpec)) fnExactEvalCard

/-- THE SECOND FORM's CARD OF 'laws.FnEval'. -/
def fnEvalUptoCard : Claim7 := { stood := { row := fnEvalUptoRow, standIns := [], harness := (true, "b3185b90d498cefca07a50a17dd266252de176b5de33e89e8944415be6b9b9cc"), looks := true }, kinds := [], alts := [], laidByText := true, laidKinds := [.handle, .sentinel, .sentinel, .sentinel, .sentinel], laidTests := true, laidLooks := .later }
def FnEvalUptoCardSaid : Prop := Claim7.holds Tryz.pinned (.plain (OpenSpec.upto fnEvalSpec)) fnEvalUptoCard

/-- THE SECOND FORM's CARD OF 'laws.FnExactEval'. -/
def fnExactEvalUptoCard : Claim7 := { stood := { row := fnExactEvalUptoRow, standIns := [], harness := (true, "b3185b90d498cefca07a50a17dd266252de176b5de33e89e8944415be6b9b9cc"), looks := true }, kinds := [], alts := [], laidByText := true, laidKinds := [.handle, .sentinel, .sentinel, .sentinel, .sentinel], laidTests := true, laidLooks := .later }
def FnExactEvalUptoCardSaid : Prop := Claim7.holds Tryz.pinned (.plain (OpenSpec.upto fnExactEvalSpec)) fnExactEvalUptoCard
end Rows
end Go.Proofs.YtdjddneidbddpaaGreatDoor
