/-
  DERIVED. GIVEN WITH THE SEED: THE CARDS: each row of YtfahccbbccncnaaDoorRows.lean that lists a variable, with what it lists TIED to the program's text (the seventh form; the later family's looks); each row that meets fmt, with fmt's text TOLD by the authors' own Lean function (tested against real Go, not proved from fmt's source: count such statements apart). THE CARD IS WHAT COUNTS. Prove the row's statement (the work); the ties are given (YtfahccbbccncnaaDoorTie.lean); close each card by the builder's one call (the guide's Derived/Test/ToyasCard.lean, 'card_holds'). Laid BY PROGRAM, IN A SANDBOX (cutbox-door.mjs). By AI agents, Wed Nov 11 2026. No macro, syntax, notation, axiom, sorry.
-/
import Derived.Test.YtfahccbbccncnaaDoorRows
import GoSem.ClaimSeven
namespace Go.Proofs.YtfahccbbccncnaaDoor
namespace Rows

/-- THE TIED CARD OF 'laws.FnIsLattice'. -/
def fnIsLatticeCard : Claim7 := { stood := { row := fnIsLatticeRow, standIns := [], harness := (true, "e6440a90cb27d5eba0e1a076753dace406edebce5b83f60286e39bff3ce5b6ad"), looks := true }, kinds := [], alts := [], laidByText := true, laidKinds := [.handle], laidTests := true, laidLooks := .later }
def FnIsLatticeCardSaid : Prop := Claim7.holds Tryd.pinned (.plain (OpenSpec.ofChange fnIsLatticeSpec)) fnIsLatticeCard

/-- THE TIED CARD OF 'laws.FnIsEven'. -/
def fnIsEvenCard : Claim7 := { stood := { row := fnIsEvenRow, standIns := [], harness := (true, "e6440a90cb27d5eba0e1a076753dace406edebce5b83f60286e39bff3ce5b6ad"), looks := true }, kinds := [], alts := [], laidByText := true, laidKinds := [.data, .data, .handle], laidTests := true, laidLooks := .later }
def FnIsEvenCardSaid : Prop := Claim7.holds Tryd.pinned (.plain (OpenSpec.ofChange fnIsEvenSpec)) fnIsEvenCard

/-- THE SECOND FORM's CARD OF 'laws.FnIsLattice'. -/
def fnIsLatticeUptoCard : Claim7 := { stood := { row := fnIsLatticeUptoRow, standIns := [], harness := (true, "e6440a90cb27d5eba0e1a076753dace406edebce5b83f60286e39bff3ce5b6ad"), looks := true }, kinds := [], alts := [], laidByText := true, laidKinds := [.handle], laidTests := true, laidLooks := .later }
def FnIsLatticeUptoCardSaid : Prop := Claim7.holds Tryd.pinned (.plain (OpenSpec.upto fnIsLatticeSpec)) fnIsLatticeUptoCard

/-- THE SECOND FORM's CARD OF 'laws.FnIsEven'. -/
def fnIsEvenUptoCard : Claim7 := { stood := { row := fnIsEvenUptoRow, standIns := [], harness := (true, "e6440a90cb27d5eba0e1a076753dace406edebce5b83f60286e39bff3ce5b6ad"), looks := true }, kinds := [], alts := [], laidByText := true, laidKinds := [.data, .data, .handle], laidTests := true, laidLooks := .later }
def FnIsEvenUptoCardSaid : Prop := Claim7.holds Tryd.pinned (.plain (OpenSpec.upto fnIsEvenSpec)) fnIsEvenUptoCard
end Rows
end Go.Proofs.YtfahccbbccncnaaDoor
