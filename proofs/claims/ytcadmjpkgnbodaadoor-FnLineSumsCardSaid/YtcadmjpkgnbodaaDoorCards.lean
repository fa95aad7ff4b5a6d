/-
  DERIVED. GIVEN WITH THE SEED: THE CARDS: each row of YtcadmjpkgnbodaaDoorRows.lean that lists a variable, with what it lists TIED to the program's text (the seventh form; the later family's looks); each row that meets fmt, with fmt's text TOLD by the authors' own Lean function (tested against real Go, not proved from fmt's source: count such statements apart). THE CARD IS WHAT COUNTS. Prove the row's statement (the work); the ties are given (YtcadmjpkgnbodaaDoorTie.lean); close each card by the builder's one call (the guide's Derived/Test/ToyasCard.lean, 'card_holds'). Laid BY PROGRAM, IN A SANDBOX (cutbox-door.mjs). By AI agents, Wed Nov 11 2026. No macro, syntax, notation, axiom, sorry.
-/
import Derived.Test.YtcadmjpkgnbodaaDoorRows
import GoSem.ClaimSeven
namespace Go.Proofs.YtcadmjpkgnbodaaDoor
namespace Rows

/-- THE TIED CARD OF 'laws.FnLineSums'. -/
def fnLineSumsCard : Claim7 := { stood := { row := fnLineSumsRow, standIns := [], harness := (true, "6d58de3dc60b39cbddc2199bab17c25da07d03f782b5cc0ab4b1dda6ecf3aa31"), looks := false }, kinds := [], alts := [], laidByText := true, laidKinds := [.data, .data], laidTests := true, laidLooks := .later }
def FnLineSumsCardSaid : Prop := Claim7.holds Tryd.pinned (.plain (OpenSpec.ofChange fnLineSumsSpec)) fnLineSumsCard

/-- THE SECOND FORM's CARD OF 'laws.FnLineSums'. -/
def fnLineSumsUptoCard : Claim7 := { stood := { row := fnLineSumsUptoRow, standIns := [], harness := (true, "6d58de3dc60b39cbddc2199bab17c25da07d03f782b5cc0ab4b1dda6ecf3aa31"), looks := false }, kinds := [], alts := [], laidByText := true, laidKinds := [.data, .data], laidTests := true, laidLooks := .later }
def FnLineSumsUptoCardSaid : Prop := Claim7.holds Tryd.pinned (.plain (OpenSpec.upto fnLineSumsSpec)) fnLineSumsUptoCard
end Rows
end Go.Proofs.YtcadmjpkgnbodaaDoor
