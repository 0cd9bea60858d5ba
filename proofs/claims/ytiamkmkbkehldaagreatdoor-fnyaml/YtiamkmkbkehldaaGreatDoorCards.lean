/-
  DERIVED. GIVEN WITH THE SEED: THE CARDS: each row of YtiamkmkbkehldaaGreatDoorRows.lean that lists a variable, with what it lists TIED to the program's text (the seventh form; the later family's looks); each row that meets fmt, with fmt's text TOLD by the authors' own Lean function (tested against real Go, not proved from fmt's source: count such statements apart). THE CARD IS WHAT COUNTS. Prove the row's statement (the work); the ties are given (YtiamkmkbkehldaaGreatDoorTie.lean); close each card by the builder's one call (the guide's Derived/Test/ToyasCard.lean, 'card_holds'). Laid BY PROGRAM, IN A SANDBOX (cutbox-door.mjs). By AI agents, Wed Nov 11 2026. No macro, syntax, notation, axiom, sorry.
-/
import Derived.Test.YtiamkmkbkehldaaGreatDoorRows
import GoSem.ClaimSeven
namespace Go.Proofs.YtiamkmkbkehldaaGreatDoor
namespace Rows

/-- THE TIED CARD OF 'laws.FnYaml'. -/
def fnYamlCard : Claim7 := { stood := { row := fnYamlRow, standIns := [], harness := (true, "177964f6622676db90bf16036cf3aba4e1445575b9fafeaec24a4835ab9b79e9"), looks := true }, kinds := [], alts := [], laidByText := true, laidKinds := [.data, .data, .data, .data, .sentinel, .sentinel, .pinned, .pinned], laidTests := true, laidLooks := .later }
def FnYamlCardSaid : Prop := Claim7.holds Tryz.pinned (.plain (OpenSpec.ofChange fnYamlSpec)) fnYamlCard

/-- THE TIED CARD OF 'laws.FnReadYaml'. -/
def fnReadYamlCard : Claim7 := { stood := { row := fnReadYamlRow, standIns := [], harness := (true, "177964f6622676db90bf16036cf3aba4e1445575b9fafeaec24a4835ab9b79e9"), looks := true }, kinds := [], alts := [], laidByText := true, laidKinds := [.data, .data, .data, .data, .sentinel, .sentinel, .pinned, .pinned], laidTests := true, laidLooks := .later }
def FnReadYamlCardSaid : Prop := Claim7.holds Tryz.pinned (.plain (OpenSpec.ofChange fnReadYamlSpec)) fnReadYamlCard

/-- THE TIED CARD OF 'laws.FnFormats'. -/
def fnFormatsCard : Claim7 := { stood := { row := fnFormatsRow, standIns := [], harness := (true, "177964f6622676db90bf16036cf3aba4e1445575b9fafeaec24a4835ab9b79e9"), looks := true }, kinds := [], alts := [], laidByText := true, laidKinds := [.data, .data, .data, .data, .pinned, .pinned], laidTests := true, laidLooks := .later }
def FnFormatsCardSaid : Prop := Claim7.holds Tryz.pinned (.plain (OpenSpec.ofChange fnFormatsSpec)) fnFormatsCard

/-- THE TIED CARD OF 'laws.FnExactYamlText'. -/
def fnExactYamlTextCard : Claim7 := { stood := { row := fnExactYamlTextRow, standIns := [], harness := (true, "177964f6622676db90bf16036cf3aba4e1445575b9fafeaec24a4835ab9b79e9"), looks := true }, kinds := [], alts := [], laidByText := true, laidKinds := [.data, .data, .data, .data, .pinned, .pinned], laidTests := true, laidLooks := .later }
def FnExactYamlTextCardSaid : Prop := Claim7.holds Tryz.pinned (.plain (OpenSpec.ofChange fnExactYamlTextSpec)) fnExactYamlTextCard

/-- THE TIED CARD OF 'laws.FnExactReadYaml'. -/
def fnExactReadYamlCard : Claim7 := { stood := { row := fnExactReadYamlRow, standIns := [], harness := (true, "177964f6622676db90bf16036cf3aba4e1445575b9fafeaec24a4835ab9b79e9"), looks := true }, kinds := [], alts := [], laidByText := true, laidKinds := [.data, .data, .data, .data, .sentinel, .sentinel, .pinned, .pinned], laidTests := true, laidLooks := .later }
def FnExactReadYamlCardSaid : Prop := Claim7.holds Tryz.pinned (.plain (OpenSpec.ofChange fnExactReadYamlSpec)) fnExactReadYamlCard

/-- THE SECOND FORM's CARD OF 'laws.FnYaml'. -/
def fnYamlUptoCard : Claim7 := { stood := { row := fnYamlUptoRow, standIns := [], harness := (true, "177964f6622676db90bf16036cf3aba4e1445575b9fafeaec24a4835ab9b79e9"), looks := true }, kinds := [], alts := [], laidByText := true, laidKinds := [.data, .data, .data, .data, .sentinel, .sentinel, .pinned, .pinned], laidTests := true, laidLooks := .later }
def FnYamlUptoCardSaid : Prop := Claim7.holds Tryz.pinned (.plain (OpenSpec.upto fnYamlSpec)) fnYamlUptoCard

/-- THE SECOND FORM's CARD OF 'laws.FnReadYaml'. -/
def fnReadYamlUptoCard : Claim7 := { stood := { row := fnReadYamlUptoRow, standIns := [], harness := (true, "177964f6622676db90bf16036cf3aba4e1445575b9fafeaec24a4835ab9b79e9"), looks := true }, kinds := [], alts := [], laidByText := true, laidKinds := [.data, .data, .data, .data, .sentinel, .sentinel, .pinned, .pinned], laidTests := true, laidLooks := .later }
def FnReadYamlUptoCardSaid : Prop := Claim7.holds Tryz.pinned (.plain (OpenSpec.upto fnReadYamlSpec)) fnReadYamlUptoCard

/-- THE SECOND FORM's CARD OF 'laws.FnFormats'. -/
def fnFormatsUptoCard : Claim7 := { stood := { row := fnFormatsUptoRow, standIns := [], harness := (true, "177964f6622676db90bf16036cf3aba4e1445575b9fafeaec24a4835ab9b79e9"), looks := true }, kinds := [], alts := [], laidByText := true, laidKinds := [.data, .data, .data, .data, .pinned, .pinned], laidTests := true, laidLooks := .later }
def FnFormatsUptoCardSaid : Prop := Claim7.holds Tryz.pinned (.plain (OpenSpec.upto fnFormatsSpec)) fnFormatsUptoCard

/-- THE SECOND FORM's CARD OF 'laws.FnExactYamlText'. -/
def fnExactYamlTextUptoCard : Claim7 := { stood := { row := fnExactYamlTextUptoRow, standIns := [], harness := (true, "177964f6622676db90bf16036cf3aba4e1445575b9fafeaec24a4835ab9b79e9"), looks := true }, kinds := [], alts := [], laidByText := true, laidKinds := [.data, .data, .data, .data, .pinned, .pinned], laidTests := true, laidLooks := .later }
def FnExactYamlTextUptoCardSaid : Prop := Claim7.holds Tryz.pinned (.plain (OpenSpec.upto fnExactYamlTextSpec)) fnExactYamlTextUptoCard

/-- THE SECOND FORM's CARD OF 'laws.FnExactReadYaml'. -/
def fnExactReadYamlUptoCard : Claim7 := { stood := { row := fnExactReadYamlUptoRow, standIns := [], harness := (true, "177964f6622676db90bf16036cf3aba4e1445575b9fafeaec24a4835ab9b79e9"), looks := true }, kinds := [], alts := [], laidByText := true, laidKinds := [.data, .data, .data, .data, .sentinel, .sentinel, .pinned, .pinned], laidTests := true, laidLooks := .later }
def FnExactReadYamlUptoCardSaid : Prop := Claim7.holds Tryz.pinned (.plain (OpenSpec.upto fnExactReadYamlSpec)) fnExactReadYamlUptoCard
end Rows
end Go.Proofs.YtiamkmkbkehldaaGreatDoor
