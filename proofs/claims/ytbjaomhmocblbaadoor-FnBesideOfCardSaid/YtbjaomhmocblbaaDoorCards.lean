/-
  DERIVED. GIVEN WITH THE SEED: THE CARDS: each row of YtbjaomhmocblbaaDoorRows.lean that lists a variable, with what it lists TIED to the program's text (the seventh form; the later family's looks); each row that meets fmt, with fmt's text TOLD by the authors' own Lean function (tested against real Go, not proved from fmt's source: count such statements apart). THE CARD IS WHAT COUNTS. Prove the row's statement (the work); the ties are given (YtbjaomhmocblbaaDoorTie.lean); close each card by the builder's one call (the guide's Derived/Test/ToyasCard.lean, 'card_holds'). Laid BY PROGRAM, IN A SANDBOX (cutbox-door.mjs). By AI agents, Wed Nov 11 2026. No macro, syntax, notation, axiom, sorry.
-/
import Derived.Test.YtbjaomhmocblbaaDoorRows
import GoSem.ClaimSeven
namespace Go.Proofs.YtbjaomhmocblbaaDoor
namespace Rows

/-- THE TIED CARD OF 'laws.FnExactSeriesText'. -/
def fnExactSeriesTextCard : Claim7 := { stood := { row := fnExactSeriesTextRow, standIns := [], harness := (true, "fb885fe0d4f9926ba0c60ef60e68d4eb833b2636cac96af00fc59c7ac586403e"), looks := true }, kinds := [], alts := [], laidByText := true, laidKinds := [.data, .data, .data], laidTests := true, laidLooks := .later }
def FnExactSeriesTextCardSaid : Prop := Claim7.holds Tryd.pinned (.plain (OpenSpec.ofChange fnExactSeriesTextSpec)) fnExactSeriesTextCard

/-- THE TIED CARD OF 'laws.FnExactSeriesLines'. -/
def fnExactSeriesLinesCard : Claim7 := { stood := { row := fnExactSeriesLinesRow, standIns := [], harness := (true, "fb885fe0d4f9926ba0c60ef60e68d4eb833b2636cac96af00fc59c7ac586403e"), looks := true }, kinds := [], alts := [], laidByText := true, laidKinds := [.data, .data], laidTests := true, laidLooks := .later }
def FnExactSeriesLinesCardSaid : Prop := Claim7.holds Tryd.pinned (.plain (OpenSpec.ofChange fnExactSeriesLinesSpec)) fnExactSeriesLinesCard

/-- THE TIED CARD OF 'laws.FnBesideOf'. -/
def fnBesideOfCard : Claim7 := { stood := { row := fnBesideOfRow, standIns := [], harness := (true, "fb885fe0d4f9926ba0c60ef60e68d4eb833b2636cac96af00fc59c7ac586403e"), looks := true }, kinds := [], alts := [], laidByText := true, laidKinds := [.data, .data], laidTests := true, laidLooks := .later }
def FnBesideOfCardSaid : Prop := Claim7.holds Tryd.pinned (.plain (OpenSpec.ofChange fnBesideOfSpec)) fnBesideOfCard

/-- THE TIED CARD OF 'laws.FnStackOf'. -/
def fnStackOfCard : Claim7 := { stood := { row := fnStackOfRow, standIns := [], harness := (true, "fb885fe0d4f9926ba0c60ef60e68d4eb833b2636cac96af00fc59c7ac586403e"), looks := true }, kinds := [], alts := [], laidByText := true, laidKinds := [.data, .data], laidTests := true, laidLooks := .later }
def FnStackOfCardSaid : Prop := Claim7.holds Tryd.pinned (.plain (OpenSpec.ofChange fnStackOfSpec)) fnStackOfCard

/-- THE TIED CARD OF 'laws.FnSeriesLines'. -/
def fnSeriesLinesCard : Claim7 := { stood := { row := fnSeriesLinesRow, standIns := [], harness := (true, "fb885fe0d4f9926ba0c60ef60e68d4eb833b2636cac96af00fc59c7ac586403e"), looks := true }, kinds := [], alts := [], laidByText := true, laidKinds := [.data, .data], laidTests := true, laidLooks := .later }
def FnSeriesLinesCardSaid : Prop := Claim7.holds Tryd.pinned (.plain (OpenSpec.ofChange fnSeriesLinesSpec)) fnSeriesLinesCard

/-- THE SECOND FORM's CARD OF 'laws.FnExactSeriesText'. -/
def fnExactSeriesTextUptoCard : Claim7 := { stood := { row := fnExactSeriesTextUptoRow, standIns := [], harness := (true, "fb885fe0d4f9926ba0c60ef60e68d4eb833b2636cac96af00fc59c7ac586403e"), looks := true }, kinds := [], alts := [], laidByText := true, laidKinds := [.data, .data, .data], laidTests := true, laidLooks := .later }
def FnExactSeriesTextUptoCardSaid : Prop := Claim7.holds Tryd.pinned (.plain (OpenSpec.upto fnExactSeriesTextSpec)) fnExactSeriesTextUptoCard

/-- THE SECOND FORM's CARD OF 'laws.FnExactSeriesLines'. -/
def fnExactSeriesLinesUptoCard : Claim7 := { stood := { row := fnExactSeriesLinesUptoRow, standIns := [], harness := (true, "fb885fe0d4f9926ba0c60ef60e68d4eb833b2636cac96af00fc59c7ac586403e"), looks := true }, kinds := [], alts := [], laidByText := true, laidKinds := [.data, .data], laidTests := true, laidLooks := .later }
def FnExactSeriesLinesUptoCardSaid : Prop := Claim7.holds Tryd.pinned (.plain (OpenSpec.upto fnExactSeriesLinesSpec)) fnExactSeriesLinesUptoCard

/-- THE SECOND FORM's CARD OF 'laws.FnBesideOf'. -/
def fnBesideOfUptoCard : Claim7 := { stood := { row := fnBesideOfUptoRow, standIns := [], harness := (true, "fb885fe0d4f9926ba0c60ef60e68d4eb833b2636cac96af00fc59c7ac586403e"), looks := true }, kinds := [], alts := [], laidByText := true, laidKinds := [.data, .data], laidTests := true, laidLooks := .later }
def FnBesideOfUptoCardSaid : Prop := Claim7.holds Tryd.pinned (.plain (OpenSpec.upto fnBesideOfSpec)) fnBesideOfUptoCard

/-- THE SECOND FORM's CARD OF 'laws.FnStackOf'. -/
def fnStackOfUptoCard : Claim7 := { stood := { row := fnStackOfUptoRow, standIns := [], harness := (true, "fb885fe0d4f9926ba0c60ef60e68d4eb833b2636cac96af00fc59c7ac586403e"), looks := true }, kinds := [], alts := [], laidByText := true, laidKinds := [.data, .data], laidTests := true, laidLooks := .later }
def FnStackOfUptoCardSaid : Prop := Claim7.holds Tryd.pinned (.plain (OpenSpec.upto fnStackOfSpec)) fnStackOfUptoCard

/-- THE SECOND FORM's CARD OF 'laws.FnSeriesLines'. -/
def fnSeriesLinesUptoCard : Claim7 := { stood := { row := fnSeriesLinesUptoRow, standIns := [], harness := (true, "fb885fe0d4f9926ba0c60ef60e68d4eb833b2636cac96af00fc59c7ac586403e"), looks := true }, kinds := [], alts := [], laidByText := true, laidKinds := [.data, .data], laidTests := true, laidLooks := .later }
def FnSeriesLinesUptoCardSaid : Prop := Claim7.holds Tryd.pinned (.plain (OpenSpec.upto fnSeriesLinesSpec)) fnSeriesLinesUptoCard
end Rows
end Go.Proofs.YtbjaomhmocblbaaDoor
