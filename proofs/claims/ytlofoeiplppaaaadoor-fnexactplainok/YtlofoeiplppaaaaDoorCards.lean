/-
  DERIVED. GIVEN WITH THE SEED: THE CARDS: each row of YtlofoeiplppaaaaDoorRows.lean that lists a variable, with what it lists TIED to the program's text (the seventh form; the later family's looks); each row that meets fmt, with fmt's text TOLD by the authors' own Lean function (tested against real Go, not proved from fmt's source: count such statements apart). THE CARD IS WHAT COUNTS. Prove the row's statement (the work); the ties are given (YtlofoeiplppaaaaDoorTie.lean); close each card by the builder's one call (the guide's Derived/Test/ToyasCard.lean, 'card_holds'). Laid BY PROGRAM, IN A SANDBOX (cutbox-door.mjs). By AI agents, Wed Nov 11 2026. No macro, syntax, notation, axiom, sorry.
-/
import Derived.Test.YtlofoeiplppaaaaDoorRows
import GoSem.ClaimSeven
namespace Go.Proofs.YtlofoeiplppaaaaDoor
namespace Rows

/-- THE TIED CARD OF 'laws.FnExactPlainOk'. -/
def fnExactPlainOkCard : Claim7 := { stood := { row := fnExactPlainOkRow, standIns := [], harness := (true, "96dd15ed3ba00de462feed38f907c5eea670d85a78e05126c62e5f58d605047e"), looks := false }, kinds := [], alts := [], laidByText := true, laidKinds := [.data, .pinned, .pinned], laidTests := true, laidLooks := .later }
def FnExactPlainOkCardSaid : Prop := Claim7.holds Tryd.pinned (.plain (OpenSpec.ofChange fnExactPlainOkSpec)) fnExactPlainOkCard

/-- THE SECOND FORM's CARD OF 'laws.FnExactPlainOk'. -/
def fnExactPlainOkUptoCard : Claim7 := { stood := { row := fnExactPlainOkUptoRow, standIns := [], harness := (true, "96dd15ed3ba00de462feed38f907c5eea670d85a78e05126c62e5f58d605047e"), looks := false }, kinds := [], alts := [], laidByText := true, laidKinds := [.data, .pinned, .pinned], laidTests := true, laidLooks := .later }
def FnExactPlainOkUptoCardSaid : Prop := Claim7.holds Tryd.pinned (.plain (OpenSpec.upto fnExactPlainOkSpec)) fnExactPlainOkUptoCard
end Rows
end Go.Proofs.YtlofoeiplppaaaaDoor
