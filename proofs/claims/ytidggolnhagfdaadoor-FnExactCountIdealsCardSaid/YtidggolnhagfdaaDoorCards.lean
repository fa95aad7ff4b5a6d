/-
  DERIVED. GIVEN WITH THE SEED: THE CARDS: each row of YtidggolnhagfdaaDoorRows.lean that lists a variable, with what it lists TIED to the program's text (the seventh form; the later family's looks); each row that meets fmt, with fmt's text TOLD by the authors' own Lean function (tested against real Go, not proved from fmt's source: count such statements apart). THE CARD IS WHAT COUNTS. Prove the row's statement (the work); the ties are given (YtidggolnhagfdaaDoorTie.lean); close each card by the builder's one call (the guide's Derived/Test/ToyasCard.lean, 'card_holds'). Laid BY PROGRAM, IN A SANDBOX (cutbox-door.mjs). By AI agents, Wed Nov 11 2026. No macro, syntax, notation, axiom, sorry.
-/
import Derived.Test.YtidggolnhagfdaaDoorRows
import GoSem.ClaimSeven
namespace Go.Proofs.YtidggolnhagfdaaDoor
namespace Rows

/-- THE TIED CARD OF 'laws.FnExactCountIdeals'. -/
def fnExactCountIdealsCard : Claim7 := { stood := { row := fnExactCountIdealsRow, standIns := [], harness := (true, "ef07514c5d6bf5a0cfd15b47f287c8535fdbfd2a6275baa10d6cc1d4cede094b"), looks := false }, kinds := [], alts := [], laidByText := true, laidKinds := [.data, .data], laidTests := true, laidLooks := .later }
def FnExactCountIdealsCardSaid : Prop := Claim7.holds Tryd.pinned (.plain (OpenSpec.ofChange fnExactCountIdealsSpec)) fnExactCountIdealsCard

/-- THE SECOND FORM's CARD OF 'laws.FnExactCountIdeals'. -/
def fnExactCountIdealsUptoCard : Claim7 := { stood := { row := fnExactCountIdealsUptoRow, standIns := [], harness := (true, "ef07514c5d6bf5a0cfd15b47f287c8535fdbfd2a6275baa10d6cc1d4cede094b"), looks := false }, kinds := [], alts := [], laidByText := true, laidKinds := [.data, .data], laidTests := true, laidLooks := .later }
def FnExactCountIdealsUptoCardSaid : Prop := Claim7.holds Tryd.pinned (.plain (OpenSpec.upto fnExactCountIdealsSpec)) fnExactCountIdealsUptoCard
end Rows
end Go.Proofs.YtidggolnhagfdaaDoor
