/-
  DERIVED. GIVEN WITH THE SEED: THE CARDS: each row of YtiicffibhjeabaaDoorRows.lean that lists a variable, with what it lists TIED to the program's text (the seventh form; the later family's looks); each row that meets fmt, with fmt's text TOLD by the authors' own Lean function (tested against real Go, not proved from fmt's source: count such statements apart). THE CARD IS WHAT COUNTS. Prove the row's statement (the work); the ties are given (YtiicffibhjeabaaDoorTie.lean); close each card by the builder's one call (the guide's Derived/Test/ToyasCard.lean, 'card_holds'). Laid BY PROGRAM, IN A SANDBOX (cutbox-door.mjs). By AI agents, Wed Nov 11 2026. No macro, syntax, notation, axiom, sorry.
-/
import Derived.Test.YtiicffibhjeabaaDoorRows
import GoSem.ClaimSeven
namespace Go.Proofs.YtiicffibhjeabaaDoor
namespace Rows

/-- THE TIED CARD OF 'laws.FnStackOf'. -/
def fnStackOfCard : Claim7 := { stood := { row := fnStackOfRow, standIns := [], harness := (true, "7db5348ddf686eb25bad75f98c0acfbe91311dd2d9d6878102be5048a6873db6"), looks := false }, kinds := [], alts := [], laidByText := true, laidKinds := [.data, .data], laidTests := true, laidLooks := .later }
def FnStackOfCardSaid : Prop := Claim7.holds Tryd.pinned (.plain (OpenSpec.ofChange fnStackOfSpec)) fnStackOfCard

/-- THE SECOND FORM's CARD OF 'laws.FnStackOf'. -/
def fnStackOfUptoCard : Claim7 := { stood := { row := fnStackOfUptoRow, standIns := [], harness := (true, "7db5348ddf686eb25bad75f98c0acfbe91311dd2d9d6878102be5048a6873db6"), looks := false }, kinds := [], alts := [], laidByText := true, laidKinds := [.data, .data], laidTests := true, laidLooks := .later }
def FnStackOfUptoCardSaid : Prop := Claim7.holds Tryd.pinned (.plain (OpenSpec.upto fnStackOfSpec)) fnStackOfUptoCard
end Rows
end Go.Proofs.YtiicffibhjeabaaDoor
