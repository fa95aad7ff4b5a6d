/-
  DERIVED. GIVEN WITH THE SEED: THE CARDS: each row of YtipdmaggfbfnlaaDoorRows.lean that lists a variable, with what it lists TIED to the program's text (the seventh form; the later family's looks); each row that meets fmt, with fmt's text TOLD by the authors' own Lean function (tested against real Go, not proved from fmt's source: count such statements apart). THE CARD IS WHAT COUNTS. Prove the row's statement (the work); the ties are given (YtipdmaggfbfnlaaDoorTie.lean); close each card by the builder's one call (the guide's Derived/Test/ToyasCard.lean, 'card_holds'). Laid BY PROGRAM, IN A SANDBOX (cutbox-door.mjs). By AI agents, Wed Nov 11 2026. No macro, syntax, notation, axiom, sorry.
-/
import Derived.Test.YtipdmaggfbfnlaaDoorRows
import GoSem.ClaimSeven
namespace Go.Proofs.YtipdmaggfbfnlaaDoor
namespace Rows

/-- THE TIED CARD OF 'laws.FnExactGreedyLine'. -/
def fnExactGreedyLineCard : Claim7 := { stood := { row := fnExactGreedyLineRow, standIns := [], harness := (true, "1fb54e17f9b18d327a528150760023a4088707dbe9313f1f39e6a7cc53aa5ff9"), looks := false }, kinds := [], alts := [], laidByText := true, laidKinds := [.data, .data], laidTests := true, laidLooks := .later }
def FnExactGreedyLineCardSaid : Prop := Claim7.holds Tryd.pinned (.plain (OpenSpec.ofChange fnExactGreedyLineSpec)) fnExactGreedyLineCard

/-- THE SECOND FORM's CARD OF 'laws.FnExactGreedyLine'. -/
def fnExactGreedyLineUptoCard : Claim7 := { stood := { row := fnExactGreedyLineUptoRow, standIns := [], harness := (true, "1fb54e17f9b18d327a528150760023a4088707dbe9313f1f39e6a7cc53aa5ff9"), looks := false }, kinds := [], alts := [], laidByText := true, laidKinds := [.data, .data], laidTests := true, laidLooks := .later }
def FnExactGreedyLineUptoCardSaid : Prop := Claim7.holds Tryd.pinned (.plain (OpenSpec.upto fnExactGreedyLineSpec)) fnExactGreedyLineUptoCard
end Rows
end Go.Proofs.YtipdmaggfbfnlaaDoor
