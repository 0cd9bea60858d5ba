/-
  DERIVED. GIVEN WITH THE SEED: THE CARDS: each row of YtehihemfepbmfaaGreatDoorRows.lean that lists a variable, with what it lists TIED to the program's text (the seventh form; the later family's looks); each row that meets fmt, with fmt's text TOLD by the authors' own Lean function (tested against real Go, not proved from fmt's source: count such statements apart). THE CARD IS WHAT COUNTS. Prove the row's statement (the work); the ties are given (YtehihemfepbmfaaGreatDoorTie.lean); close each card by the builder's one call (the guide's Derived/Test/ToyasCard.lean, 'card_holds'). Laid BY PROGRAM, IN A SANDBOX (cutbox-door.mjs). By AI agents, Wed Nov 11 2026. No macro, syntax, notation, axiom, sorry.
-/
import Derived.Test.YtehihemfepbmfaaGreatDoorRows
import GoSem.ClaimSeven
namespace Go.Proofs.YtehihemfepbmfaaGreatDoor
namespace Rows

/-- THE TIED CARD OF 'laws.FnFilterTexts'. -/
def fnFilterTextsCard : Claim7 := { stood := { row := fnFilterTextsRow, standIns := [], harness := (true, "f82034209be3bb5813f69ba8894dacfe07c8a99007b931c553cb6568e8e06c20"), looks := true }, kinds := [], alts := [], laidByText := true, laidKinds := [.data, .data, .data, .data, .sentinel, .sentinel, .listed, .data, .data, .data, .pinned], laidTests := true, laidLooks := .later }
def FnFilterTextsCardSaid : Prop := Claim7.holds Tryz.pinned (.plain (OpenSpec.ofChange fnFilterTextsSpec)) fnFilterTextsCard

/-- THE TIED CARD OF 'laws.FnReadFilter'. -/
def fnReadFilterCard : Claim7 := { stood := { row := fnReadFilterRow, standIns := [], harness := (true, "f82034209be3bb5813f69ba8894dacfe07c8a99007b931c553cb6568e8e06c20"), looks := true }, kinds := [], alts := [], laidByText := true, laidKinds := [.data, .data, .data, .data, .sentinel, .sentinel, .listed, .data, .data, .data, .pinned], laidTests := true, laidLooks := .later }
def FnReadFilterCardSaid : Prop := Claim7.holds Tryz.pinned (.plain (OpenSpec.ofChange fnReadFilterSpec)) fnReadFilterCard

/-- THE TIED CARD OF 'laws.FnExactFilterText'. -/
def fnExactFilterTextCard : Claim7 := { stood := { row := fnExactFilterTextRow, standIns := [], harness := (true, "f82034209be3bb5813f69ba8894dacfe07c8a99007b931c553cb6568e8e06c20"), looks := true }, kinds := [], alts := [], laidByText := true, laidKinds := [.data, .data, .data, .data, .data], laidTests := true, laidLooks := .later }
def FnExactFilterTextCardSaid : Prop := Claim7.holds Tryz.pinned (.plain (OpenSpec.ofChange fnExactFilterTextSpec)) fnExactFilterTextCard

/-- THE TIED CARD OF 'laws.FnExactReadFilter'. -/
def fnExactReadFilterCard : Claim7 := { stood := { row := fnExactReadFilterRow, standIns := [], harness := (true, "f82034209be3bb5813f69ba8894dacfe07c8a99007b931c553cb6568e8e06c20"), looks := true }, kinds := [], alts := [], laidByText := true, laidKinds := [.data, .data, .data, .data, .sentinel, .sentinel, .listed, .data, .data, .data, .pinned], laidTests := true, laidLooks := .later }
def FnExactReadFilterCardSaid : Prop := Claim7.holds Tryz.pinned (.plain (OpenSpec.ofChange fnExactReadFilterSpec)) fnExactReadFilterCard

/-- THE SECOND FORM's CARD OF 'laws.FnFilterTexts'. -/
def fnFilterTextsUptoCard : Claim7 := { stood := { row := fnFilterTextsUptoRow, standIns := [], harness := (true, "f82034209be3bb5813f69ba8894dacfe07c8a99007b931c553cb6568e8e06c20"), looks := true }, kinds := [], alts := [], laidByText := true, laidKinds := [.data, .data, .data, .data, .sentinel, .sentinel, .listed, .data, .data, .data, .pinned], laidTests := true, laidLooks := .later }
def FnFilterTextsUptoCardSaid : Prop := Claim7.holds Tryz.pinned (.plain (OpenSpec.upto fnFilterTextsSpec)) fnFilterTextsUptoCard

/-- THE SECOND FORM's CARD OF 'laws.FnReadFilter'. -/
def fnReadFilterUptoCard : Claim7 := { stood := { row := fnReadFilterUptoRow, standIns := [], harness := (true, "f82034209be3bb5813f69ba8894dacfe07c8a99007b931c553cb6568e8e06c20"), looks := true }, kinds := [], alts := [], laidByText := true, laidKinds := [.data, .data, .data, .data, .sentinel, .sentinel, .listed, .data, .data, .data, .pinned], laidTests := true, laidLooks := .later }
def FnReadFilterUptoCardSaid : Prop := Claim7.holds Tryz.pinned (.plain (OpenSpec.upto fnReadFilterSpec)) fnReadFilterUptoCard

/-- THE SECOND FORM's CARD OF 'laws.FnExactFilterText'. -/
def fnExactFilterTextUptoCard : Claim7 := { stood := { row := fnExactFilterTextUptoRow, standIns := [], harness := (true, "f82034209be3bb5813f69ba8894dacfe07c8a99007b931c553cb6568e8e06c20"), looks := true }, kinds := [], alts := [], laidByText := true, laidKinds := [.data, .data, .data, .data, .data], laidTests := true, laidLooks := .later }
def FnExactFilterTextUptoCardSaid : Prop := Claim7.holds Tryz.pinned (.plain (OpenSpec.upto fnExactFilterTextSpec)) fnExactFilterTextUptoCard

/-- THE SECOND FORM's CARD OF 'laws.FnExactReadFilter'. -/
def fnExactReadFilterUptoCard : Claim7 := { stood := { row := fnExactReadFilterUptoRow, standIns := [], harness := (true, "f82034209be3bb5813f69ba8894dacfe07c8a99007b931c553cb6568e8e06c20"), looks := true }, kinds := [], alts := [], laidByText := true, laidKinds := [.data, .data, .data, .data, .sentinel, .sentinel, .listed, .data, .data, .data, .pinned], laidTests := true, laidLooks := .later }
def FnExactReadFilterUptoCardSaid : Prop := Claim7.holds Tryz.pinned (.plain (OpenSpec.upto fnExactReadFilterSpec)) fnExactReadFilterUptoCard
end Rows
end Go.Proofs.YtehihemfepbmfaaGreatDoor
