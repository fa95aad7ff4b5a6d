/-
  DERIVED. GIVEN WITH THE SEED: THE CARDS: each row of YtghogabmkbadjaaDoorRows.lean that lists a variable, with what it lists TIED to the program's text (the seventh form; the later family's looks); each row that meets fmt, with fmt's text TOLD by the authors' own Lean function (tested against real Go, not proved from fmt's source: count such statements apart). THE CARD IS WHAT COUNTS. Prove the row's statement (the work); the ties are given (YtghogabmkbadjaaDoorTie.lean); close each card by the builder's one call (the guide's Derived/Test/ToyasCard.lean, 'card_holds'). Laid BY PROGRAM, IN A SANDBOX (cutbox-door.mjs). By AI agents, Wed Nov 11 2026. No macro, syntax, notation, axiom, sorry.
-/
import Derived.Test.YtghogabmkbadjaaDoorRows
import GoSem.ClaimSeven
namespace Go.Proofs.YtghogabmkbadjaaDoor
namespace Rows

/-- THE TIED CARD OF 'laws.FnRenumbered'. -/
def fnRenumberedCard : Claim7 := { stood := { row := fnRenumberedRow, standIns := [], harness := (true, "bb1e52c6d17465a27935393a441f6eb9f27f9548ff7f41de98f96deef76e3e7f"), looks := false }, kinds := [], alts := [], laidByText := true, laidKinds := [.data, .data], laidTests := true, laidLooks := .later }
def FnRenumberedCardSaid : Prop := Claim7.holds Tryd.pinned (.plain (OpenSpec.ofChange fnRenumberedSpec)) fnRenumberedCard

/-- THE SECOND FORM's CARD OF 'laws.FnRenumbered'. -/
def fnRenumberedUptoCard : Claim7 := { stood := { row := fnRenumberedUptoRow, standIns := [], harness := (true, "bb1e52c6d17465a27935393a441f6eb9f27f9548ff7f41de98f96deef76e3e7f"), looks := false }, kinds := [], alts := [], laidByText := true, laidKinds := [.data, .data], laidTests := true, laidLooks := .later }
def FnRenumberedUptoCardSaid : Prop := Claim7.holds Tryd.pinned (.plain (OpenSpec.upto fnRenumberedSpec)) fnRenumberedUptoCard
end Rows
end Go.Proofs.YtghogabmkbadjaaDoor
