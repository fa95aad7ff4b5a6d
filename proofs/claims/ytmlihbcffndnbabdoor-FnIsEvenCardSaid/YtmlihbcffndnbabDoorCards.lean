/-
  DERIVED. GIVEN WITH THE SEED: THE CARDS: each row of YtmlihbcffndnbabDoorRows.lean that lists a variable, with what it lists TIED to the program's text (the seventh form; the later family's looks); each row that meets fmt, with fmt's text TOLD by the authors' own Lean function (tested against real Go, not proved from fmt's source: count such statements apart). THE CARD IS WHAT COUNTS. Prove the row's statement (the work); the ties are given (YtmlihbcffndnbabDoorTie.lean); close each card by the builder's one call (the guide's Derived/Test/ToyasCard.lean, 'card_holds'). Laid BY PROGRAM, IN A SANDBOX (cutbox-door.mjs). By AI agents, Wed Nov 11 2026. No macro, syntax, notation, axiom, sorry.
-/
import Derived.Test.YtmlihbcffndnbabDoorRows
import GoSem.ClaimSeven
namespace Go.Proofs.YtmlihbcffndnbabDoor
namespace Rows

/-- THE TIED CARD OF 'laws.FnExactJoinOf'. -/
def fnExactJoinOfCard : Claim7 := { stood := { row := fnExactJoinOfRow, standIns := [], harness := (true, "c8d3b51fee7b065b5b349d3973742743b54eec4720a30a8eb5ae5bbe52aa545c"), looks := true }, kinds := [], alts := [], laidByText := true, laidKinds := [.handle], laidTests := true, laidLooks := .later }
def FnExactJoinOfCardSaid : Prop := Claim7.holds Tryd.pinned (.plain (OpenSpec.ofChange fnExactJoinOfSpec)) fnExactJoinOfCard

/-- THE TIED CARD OF 'laws.FnExactMeetOf'. -/
def fnExactMeetOfCard : Claim7 := { stood := { row := fnExactMeetOfRow, standIns := [], harness := (true, "c8d3b51fee7b065b5b349d3973742743b54eec4720a30a8eb5ae5bbe52aa545c"), looks := true }, kinds := [], alts := [], laidByText := true, laidKinds := [.handle], laidTests := true, laidLooks := .later }
def FnExactMeetOfCardSaid : Prop := Claim7.holds Tryd.pinned (.plain (OpenSpec.ofChange fnExactMeetOfSpec)) fnExactMeetOfCard

/-- THE TIED CARD OF 'laws.FnExactIsLattice'. -/
def fnExactIsLatticeCard : Claim7 := { stood := { row := fnExactIsLatticeRow, standIns := [], harness := (true, "c8d3b51fee7b065b5b349d3973742743b54eec4720a30a8eb5ae5bbe52aa545c"), looks := true }, kinds := [], alts := [], laidByText := true, laidKinds := [.handle], laidTests := true, laidLooks := .later }
def FnExactIsLatticeCardSaid : Prop := Claim7.holds Tryd.pinned (.plain (OpenSpec.ofChange fnExactIsLatticeSpec)) fnExactIsLatticeCard

/-- THE TIED CARD OF 'laws.FnExactIsEven'. -/
def fnExactIsEvenCard : Claim7 := { stood := { row := fnExactIsEvenRow, standIns := [], harness := (true, "c8d3b51fee7b065b5b349d3973742743b54eec4720a30a8eb5ae5bbe52aa545c"), looks := true }, kinds := [], alts := [], laidByText := true, laidKinds := [.handle], laidTests := true, laidLooks := .later }
def FnExactIsEvenCardSaid : Prop := Claim7.holds Tryd.pinned (.plain (OpenSpec.ofChange fnExactIsEvenSpec)) fnExactIsEvenCard

/-- THE TIED CARD OF 'laws.FnJoinOf'. -/
def fnJoinOfCard : Claim7 := { stood := { row := fnJoinOfRow, standIns := [], harness := (true, "c8d3b51fee7b065b5b349d3973742743b54eec4720a30a8eb5ae5bbe52aa545c"), looks := true }, kinds := [], alts := [], laidByText := true, laidKinds := [.handle], laidTests := true, laidLooks := .later }
def FnJoinOfCardSaid : Prop := Claim7.holds Tryd.pinned (.plain (OpenSpec.ofChange fnJoinOfSpec)) fnJoinOfCard

/-- THE TIED CARD OF 'laws.FnMeetOf'. -/
def fnMeetOfCard : Claim7 := { stood := { row := fnMeetOfRow, standIns := [], harness := (true, "c8d3b51fee7b065b5b349d3973742743b54eec4720a30a8eb5ae5bbe52aa545c"), looks := true }, kinds := [], alts := [], laidByText := true, laidKinds := [.handle], laidTests := true, laidLooks := .later }
def FnMeetOfCardSaid : Prop := Claim7.holds Tryd.pinned (.plain (OpenSpec.ofChange fnMeetOfSpec)) fnMeetOfCard

/-- THE TIED CARD OF 'laws.FnIsLattice'. -/
def fnIsLatticeCard : Claim7 := { stood := { row := fnIsLatticeRow, standIns := [], harness := (true, "c8d3b51fee7b065b5b349d3973742743b54eec4720a30a8eb5ae5bbe52aa545c"), looks := true }, kinds := [], alts := [], laidByText := true, laidKinds := [.handle], laidTests := true, laidLooks := .later }
def FnIsLatticeCardSaid : Prop := Claim7.holds Tryd.pinned (.plain (OpenSpec.ofChange fnIsLatticeSpec)) fnIsLatticeCard

/-- THE TIED CARD OF 'laws.FnIsEven'. -/
def fnIsEvenCard : Claim7 := { stood := { row := fnIsEvenRow, standIns := [], harness := (true, "c8d3b51fee7b065b5b349d3973742743b54eec4720a30a8eb5ae5bbe52aa545c"), looks := true }, kinds := [], alts := [], laidByText := true, laidKinds := [.data, .data, .handle], laidTests := true, laidLooks := .later }
def FnIsEvenCardSaid : Prop := Claim7.holds Tryd.pinned (.plain (OpenSpec.ofChange fnIsEvenSpec)) fnIsEvenCard

/-- THE SECOND FORM's CARD OF 'laws.FnExactJoinOf'. -/
def fnExactJoinOfUptoCard : Claim7 := { stood := { row := fnExactJoinOfUptoRow, standIns := [], harness := (true, "c8d3b51fee7b065b5b349d3973742743b54eec4720a30a8eb5ae5bbe52aa545c"), looks := true }, kinds := [], alts := [], laidByText := true, laidKinds := [.handle], laidTests := true, laidLooks := .later }
def FnExactJoinOfUptoCardSaid : Prop := Claim7.holds Tryd.pinned (.plain (OpenSpec.upto fnExactJoinOfSpec)) fnExactJoinOfUptoCard

/-- THE SECOND FORM's CARD OF 'laws.FnExactMeetOf'. -/
def fnExactMeetOfUptoCard : Claim7 := { stood := { row := fnExactMeetOfUptoRow, standIns := [], harness := (true, "c8d3b51fee7b065b5b349d3973742743b54eec4720a30a8eb5ae5bbe52aa545c"), looks := true }, kinds := [], alts := [], laidByText := true, laidKinds := [.handle], laidTests := true, laidLooks := .later }
def FnExactMeetOfUptoCardSaid : Prop := Claim7.holds Tryd.pinned (.plain (OpenSpec.upto fnExactMeetOfSpec)) fnExactMeetOfUptoCard

/-- THE SECOND FORM's CARD OF 'laws.FnExactIsLattice'. -/
def fnExactIsLatticeUptoCard : Claim7 := { stood := { row := fnExactIsLatticeUptoRow, standIns := [], harness := (true, "c8d3b51fee7b065b5b349d3973742743b54eec4720a30a8eb5ae5bbe52aa545c"), looks := true }, kinds := [], alts := [], laidByText := true, laidKinds := [.handle], laidTests := true, laidLooks := .later }
def FnExactIsLatticeUptoCardSaid : Prop := Claim7.holds Tryd.pinned (.plain (OpenSpec.upto fnExactIsLatticeSpec)) fnExactIsLatticeUptoCard

/-- THE SECOND FORM's CARD OF 'laws.FnExactIsEven'. -/
def fnExactIsEvenUptoCard : Claim7 := { stood := { row := fnExactIsEvenUptoRow, standIns := [], harness := (true, "c8d3b51fee7b065b5b349d3973742743b54eec4720a30a8eb5ae5bbe52aa545c"), looks := true }, kinds := [], alts := [], laidByText := true, laidKinds := [.handle], laidTests := true, laidLooks := .later }
def FnExactIsEvenUptoCardSaid : Prop := Claim7.holds Tryd.pinned (.plain (OpenSpec.upto fnExactIsEvenSpec)) fnExactIsEvenUptoCard

/-- THE SECOND FORM's CARD OF 'laws.FnJoinOf'. -/
def fnJoinOfUptoCard : Claim7 := { stood := { row := fnJoinOfUptoRow, standIns := [], harness := (true, "c8d3b51fee7b065b5b349d3973742743b54eec4720a30a8eb5ae5bbe52aa545c"), looks := true }, kinds := [], alts := [], laidByText := true, laidKinds := [.handle], laidTests := true, laidLooks := .later }
def FnJoinOfUptoCardSaid : Prop := Claim7.holds Tryd.pinned (.plain (OpenSpec.upto fnJoinOfSpec)) fnJoinOfUptoCard

/-- THE SECOND FORM's CARD OF 'laws.FnMeetOf'. -/
def fnMeetOfUptoCard : Claim7 := { stood := { row := fnMeetOfUptoRow, standIns := [], harness := (true, "c8d3b51fee7b065b5b349d3973742743b54eec4720a30a8eb5ae5bbe52aa545c"), looks := true }, kinds := [], alts := [], laidByText := true, laidKinds := [.handle], laidTests := true, laidLooks := .later }
def FnMeetOfUptoCardSaid : Prop := Claim7.holds Tryd.pinned (.plain (OpenSpec.upto fnMeetOfSpec)) fnMeetOfUptoCard

/-- THE SECOND FORM's CARD OF 'laws.FnIsLattice'. -/
def fnIsLatticeUptoCard : Claim7 := { stood := { row := fnIsLatticeUptoRow, standIns := [], harness := (true, "c8d3b51fee7b065b5b349d3973742743b54eec4720a30a8eb5ae5bbe52aa545c"), looks := true }, kinds := [], alts := [], laidByText := true, laidKinds := [.handle], laidTests := true, laidLooks := .later }
def FnIsLatticeUptoCardSaid : Prop := Claim7.holds Tryd.pinned (.plain (OpenSpec.upto fnIsLatticeSpec)) fnIsLatticeUptoCard

/-- THE SECOND FORM's CARD OF 'laws.FnIsEven'. -/
def fnIsEvenUptoCard : Claim7 := { stood := { row := fnIsEvenUptoRow, standIns := [], harness := (true, "c8d3b51fee7b065b5b349d3973742743b54eec4720a30a8eb5ae5bbe52aa545c"), looks := true }, kinds := [], alts := [], laidByText := true, laidKinds := [.data, .data, .handle], laidTests := true, laidLooks := .later }
def FnIsEvenUptoCardSaid : Prop := Claim7.holds Tryd.pinned (.plain (OpenSpec.upto fnIsEvenSpec)) fnIsEvenUptoCard
end Rows
end Go.Proofs.YtmlihbcffndnbabDoor
