/-
  DERIVED. GIVEN WITH THE SEED: THE CARDS: each row of YtfijafbpdlakaaaGreatDoorRows.lean that lists a variable, with what it lists TIED to the program's text (the seventh form; the later family's looks); each row that meets fmt, with fmt's text TOLD by the authors' own Lean function (tested against real Go, not proved from fmt's source: count such statements apart). THE CARD IS WHAT COUNTS. Prove the row's statement (the work); the ties are given (YtfijafbpdlakaaaGreatDoorTie.lean); close each card by the builder's one call (the guide's Derived/Test/ToyasCard.lean, 'card_holds'). Laid BY PROGRAM, IN A SANDBOX (cutbox-door.mjs). By AI agents, Wed Nov 11 2026. No macro, syntax, notation, axiom, sorry.
-/
import Derived.Test.YtfijafbpdlakaaaGreatDoorRows
import GoSem.ClaimSeven
namespace Go.Proofs.YtfijafbpdlakaaaGreatDoor
namespace Rows

/-- THE TIED CARD OF 'laws.FnSums'. -/
def fnSumsCard : Claim7 := { stood := { row := fnSumsRow, standIns := [], harness := (true, "92744cdcb9753429913f57d317b108daa2e773134039842d87cb58014b1cbd94"), looks := true }, kinds := [], alts := [], laidByText := true, laidKinds := [.handle, .sentinel, .sentinel], laidTests := true, laidLooks := .later }
def FnSumsCardSaid : Prop := Claim7.holds Tryz.pinned (.plain (OpenSpec.ofChange fnSumsSpec)) fnSumsCard

/-- THE TIED CARD OF 'laws.FnExactPlus'. -/
def fnExactPlusCard : Claim7 := { stood := { row := fnExactPlusRow, standIns := [], harness := (true, "92744cdcb9753429913f57d317b108daa2e773134039842d87cb58014b1cbd94"), looks := true }, kinds := [], alts := [], laidByText := true, laidKinds := [.handle, .sentinel, .sentinel], laidTests := true, laidLooks := .later }
def FnExactPlusCardSaid : Prop := Claim7.holds Tryz.pinned (.plain (OpenSpec.ofChange fnExactPlusSpec)) fnExactPlusCard

/-- THE TIED CARD OF 'laws.FnExactMinus'. -/
def fnExactMinusCard : Claim7 := { stood := { row := fnExactMinusRow, standIns := [], harness := (true, "92744cdcb9753429913f57d317b108daa2e773134039842d87cb58014b1cbd94"), looks := true }, kinds := [], alts := [], laidByText := true, laidKinds := [.handle, .sentinel, .sentinel], laidTests := true, laidLooks := .later }
def FnExactMinusCardSaid : Prop := Claim7.holds Tryz.pinned (.plain (OpenSpec.ofChange fnExactMinusSpec)) fnExactMinusCard

/-- THE SECOND FORM's CARD OF 'laws.FnSums'. -/
def fnSumsUptoCard : Claim7 := { stood := { row := fnSumsUptoRow, standIns := [], harness := (true, "92744cdcb9753429913f57d317b108daa2e773134039842d87cb58014b1cbd94"), looks := true }, kinds := [], alts := [], laidByText := true, laidKinds := [.handle, .sentinel, .sentinel], laidTests := true, laidLooks := .later }
def FnSumsUptoCardSaid : Prop := Claim7.holds Tryz.pinned (.plain (OpenSpec.upto fnSumsSpec)) fnSumsUptoCard

/-- THE SECOND FORM's CARD OF 'laws.FnExactPlus'. -/
def fnExactPlusUptoCard : Claim7 := { stood := { row := fnExactPlusUptoRow, standIns := [], harness := (true, "92744cdcb9753429913f57d317b108daa2e773134039842d87cb58014b1cbd94"), looks := true }, kinds := [], alts := [], laidByText := true, laidKinds := [.handle, .sentinel, .sentinel], laidTests := true, laidLooks := .later }
def FnExactPlusUptoCardSaid : Prop := Claim7.holds Tryz.pinned (.plain (OpenSpec.upto fnExactPlusSpec)) fnExactPlusUptoCard

/-- THE SECOND FORM's CARD OF 'laws.FnExactMinus'. -/
def fnExactMinusUptoCard : Claim7 := { stood := { row := fnExactMinusUptoRow, standIns := [], harness := (true, "92744cdcb9753429913f57d317b108daa2e773134039842d87cb58014b1cbd94"), looks := true }, kinds := [], alts := [], laidByText := true, laidKinds := [.handle, .sentinel, .sentinel], laidTests := true, laidLooks := .later }
def FnExactMinusUptoCardSaid : Prop := Claim7.holds Tryz.pinned (.plain (OpenSpec.upto fnExactMinusSpec)) fnExactMinusUptoCard
end Rows
end Go.Proofs.YtfijafbpdlakaaaGreatDoor
