/-
  DERIVED. GIVEN WITH THE SEED: THE CARDS: each row of YtmlihbcffndnbaaDoorRows.lean that lists a variable, with what it lists TIED to the program's text (the seventh form; the later family's looks); each row that meets fmt, with fmt's text TOLD by the authors' own Lean function (tested against real Go, not proved from fmt's source: count such statements apart). THE CARD IS WHAT COUNTS. Prove the row's statement (the work); the ties are given (YtmlihbcffndnbaaDoorTie.lean); close each card by the builder's one call (the guide's Derived/Test/ToyasCard.lean, 'card_holds'). Laid BY PROGRAM, IN A SANDBOX (cutbox-door.mjs). By AI agents, Wed Nov 11 2026. No macro, syntax, notation, axiom, sorry.
-/
import Derived.Test.YtmlihbcffndnbaaDoorRows
import GoSem.ClaimSeven
namespace Go.Proofs.YtmlihbcffndnbaaDoor
namespace Rows

/-- THE TIED CARD OF 'laws.FnExactLeastFixed'. -/
def fnExactLeastFixedCard : Claim7 := { stood := { row := fnExactLeastFixedRow, standIns := [], harness := (true, "7a1acb2b309ecdc36492c37f2b3222a1740629764331915a199f010c38d86579"), looks := true }, kinds := [], alts := [], laidByText := true, laidKinds := [.handle], laidTests := true, laidLooks := .later }
def FnExactLeastFixedCardSaid : Prop := Claim7.holds Tryd.pinned (.plain (OpenSpec.ofChange fnExactLeastFixedSpec)) fnExactLeastFixedCard

/-- THE TIED CARD OF 'laws.FnCountRising'. -/
def fnCountRisingCard : Claim7 := { stood := { row := fnCountRisingRow, standIns := [], harness := (true, "7a1acb2b309ecdc36492c37f2b3222a1740629764331915a199f010c38d86579"), looks := true }, kinds := [], alts := [], laidByText := true, laidKinds := [.data, .data], laidTests := true, laidLooks := .later }
def FnCountRisingCardSaid : Prop := Claim7.holds Tryd.pinned (.plain (OpenSpec.ofChange fnCountRisingSpec)) fnCountRisingCard

/-- THE TIED CARD OF 'laws.FnLeastFixed'. -/
def fnLeastFixedCard : Claim7 := { stood := { row := fnLeastFixedRow, standIns := [], harness := (true, "7a1acb2b309ecdc36492c37f2b3222a1740629764331915a199f010c38d86579"), looks := true }, kinds := [], alts := [], laidByText := true, laidKinds := [.handle], laidTests := true, laidLooks := .later }
def FnLeastFixedCardSaid : Prop := Claim7.holds Tryd.pinned (.plain (OpenSpec.ofChange fnLeastFixedSpec)) fnLeastFixedCard

/-- THE SECOND FORM's CARD OF 'laws.FnExactLeastFixed'. -/
def fnExactLeastFixedUptoCard : Claim7 := { stood := { row := fnExactLeastFixedUptoRow, standIns := [], harness := (true, "7a1acb2b309ecdc36492c37f2b3222a1740629764331915a199f010c38d86579"), looks := true }, kinds := [], alts := [], laidByText := true, laidKinds := [.handle], laidTests := true, laidLooks := .later }
def FnExactLeastFixedUptoCardSaid : Prop := Claim7.holds Tryd.pinned (.plain (OpenSpec.upto fnExactLeastFixedSpec)) fnExactLeastFixedUptoCard

/-- THE SECOND FORM's CARD OF 'laws.FnCountRising'. -/
def fnCountRisingUptoCard : Claim7 := { stood := { row := fnCountRisingUptoRow, standIns := [], harness := (true, "7a1acb2b309ecdc36492c37f2b3222a1740629764331915a199f010c38d86579"), looks := true }, kinds := [], alts := [], laidByText := true, laidKinds := [.data, .data], laidTests := true, laidLooks := .later }
def FnCountRisingUptoCardSaid : Prop := Claim7.holds Tryd.pinned (.plain (OpenSpec.upto fnCountRisingSpec)) fnCountRisingUptoCard

/-- THE SECOND FORM's CARD OF 'laws.FnLeastFixed'. -/
def fnLeastFixedUptoCard : Claim7 := { stood := { row := fnLeastFixedUptoRow, standIns := [], harness := (true, "7a1acb2b309ecdc36492c37f2b3222a1740629764331915a199f010c38d86579"), looks := true }, kinds := [], alts := [], laidByText := true, laidKinds := [.handle], laidTests := true, laidLooks := .later }
def FnLeastFixedUptoCardSaid : Prop := Claim7.holds Tryd.pinned (.plain (OpenSpec.upto fnLeastFixedSpec)) fnLeastFixedUptoCard
end Rows
end Go.Proofs.YtmlihbcffndnbaaDoor
