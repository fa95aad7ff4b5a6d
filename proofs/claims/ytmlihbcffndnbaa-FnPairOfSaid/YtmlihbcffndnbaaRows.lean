/-
  No cell of these rows narrows 'for every input' (looked for: loops, veiled, ifaces, maps, wideKeys, modest, calm, conditions, laid).
  DERIVED. THE GIVEN ROWS OF THIS SEAT. 9 by the template 'for every input the law returns true; each argument reads behind the call as it read before'; 0 by the template 'total and deterministic' (their statements: YtmlihbcffndnbaaTotals.lean).
  GIVEN WITH THE SEED: the statements are not yours to turn. If you find one false, say at which input.
  Laid BY PROGRAM, IN A SANDBOX (cutbox-rows.mjs): the forced cells as the released guide's own fill.sh prints them over the translation 4aecae34771c4d06… (all of the seat's roots in one cut). By AI agents, Wed Nov 11 2026. No macro, syntax, notation, axiom, sorry.
-/
import Derived.Test.YtmlihbcffndnbaaChecked
import GoSem.Claim
import GoSem.ClaimJoined
import GoSem.ClaimMapViews
import Derived.JoinedTies
import Derived.KernelRfl
namespace Go.Proofs.Ytmlihbcffndnbaa
/- THE CELL 'sum', in the pinned program and in every row, IS THE sha256 OF THE DUMP (.gsa) THAT YtmlihbcffndnbaaProg.lean LOADS. Nothing in Lean hashes anything: it is a label: what it is worth is what the hold of that sum in a sandbox is worth. -/
noncomputable def Try.pinned : Pinned := { name := "ytmlihbcffndnbaa", sum := "4aecae34771c4d06713be138a9096c6fb5420ea6fafd32262589b1e84dc56a5f", checked := Try.checked }
namespace Rows
def none {H : Type} : Left H := { results := [], args := [] }

/-- 'laws.FnExactIsRising': WHATEVER THE INPUT: true; the input reads as it did. -/
def fnExactIsRisingSpec : ChangeSpec := { name := "fnExactIsRising", fn := fun _ => fun
  | [d1, d2, d3] => { results := [.lit (.bool true)], args := [d1, d2, d3] }
  | _ => none }
def fnExactIsRisingRow : OpenClaim := { program := "ytmlihbcffndnbaa", sum := "4aecae34771c4d06713be138a9096c6fb5420ea6fafd32262589b1e84dc56a5f", func := "loop.example/ordersthatbranch/laws.FnExactIsRising", spec := "fnExactIsRising", unfollowed := true, recurses := true, apart := false }
def FnExactIsRisingSaid : Prop := fnExactIsRisingRow.holds Try.pinned (OpenSpec.ofChange fnExactIsRisingSpec)

/-- ITS FALSE NEIGHBOUR: 'it returns false'. Refute it at one input. -/
def fnExactIsRisingWrong : ChangeSpec := { name := "fnExactIsRising", fn := fun _ => fun
  | [d1, d2, d3] => { results := [.lit (.bool false)], args := [d1, d2, d3] }
  | _ => none }
def FnExactIsRisingWrongFalsely : Prop := fnExactIsRisingRow.holds Try.pinned (OpenSpec.ofChange fnExactIsRisingWrong)

/-- 'laws.FnExactCountRising': WHATEVER THE INPUT: true; the input reads as it did. -/
def fnExactCountRisingSpec : ChangeSpec := { name := "fnExactCountRising", fn := fun _ => fun
  | [d1, d2] => { results := [.lit (.bool true)], args := [d1, d2] }
  | _ => none }
def fnExactCountRisingRow : OpenClaim := { program := "ytmlihbcffndnbaa", sum := "4aecae34771c4d06713be138a9096c6fb5420ea6fafd32262589b1e84dc56a5f", func := "loop.example/ordersthatbranch/laws.FnExactCountRising", spec := "fnExactCountRising", unfollowed := true, recurses := true, apart := false }
def FnExactCountRisingSaid : Prop := fnExactCountRisingRow.holds Try.pinned (OpenSpec.ofChange fnExactCountRisingSpec)

/-- ITS FALSE NEIGHBOUR: 'it returns false'. Refute it at one input. -/
def fnExactCountRisingWrong : ChangeSpec := { name := "fnExactCountRising", fn := fun _ => fun
  | [d1, d2] => { results := [.lit (.bool false)], args := [d1, d2] }
  | _ => none }
def FnExactCountRisingWrongFalsely : Prop := fnExactCountRisingRow.holds Try.pinned (OpenSpec.ofChange fnExactCountRisingWrong)

/-- 'laws.FnExactFixedOf': WHATEVER THE INPUT: true; the input reads as it did. -/
def fnExactFixedOfSpec : ChangeSpec := { name := "fnExactFixedOf", fn := fun _ => fun
  | [d1, d2] => { results := [.lit (.bool true)], args := [d1, d2] }
  | _ => none }
def fnExactFixedOfRow : OpenClaim := { program := "ytmlihbcffndnbaa", sum := "4aecae34771c4d06713be138a9096c6fb5420ea6fafd32262589b1e84dc56a5f", func := "loop.example/ordersthatbranch/laws.FnExactFixedOf", spec := "fnExactFixedOf", unfollowed := true, recurses := true, apart := false }
def FnExactFixedOfSaid : Prop := fnExactFixedOfRow.holds Try.pinned (OpenSpec.ofChange fnExactFixedOfSpec)

/-- ITS FALSE NEIGHBOUR: 'it returns false'. Refute it at one input. -/
def fnExactFixedOfWrong : ChangeSpec := { name := "fnExactFixedOf", fn := fun _ => fun
  | [d1, d2] => { results := [.lit (.bool false)], args := [d1, d2] }
  | _ => none }
def FnExactFixedOfWrongFalsely : Prop := fnExactFixedOfRow.holds Try.pinned (OpenSpec.ofChange fnExactFixedOfWrong)

/-- 'laws.FnExactIsPairing': WHATEVER THE INPUT: true; the input reads as it did. -/
def fnExactIsPairingSpec : ChangeSpec := { name := "fnExactIsPairing", fn := fun _ => fun
  | [d1, d2, d3, d4] => { results := [.lit (.bool true)], args := [d1, d2, d3, d4] }
  | _ => none }
def fnExactIsPairingRow : OpenClaim := { program := "ytmlihbcffndnbaa", sum := "4aecae34771c4d06713be138a9096c6fb5420ea6fafd32262589b1e84dc56a5f", func := "loop.example/ordersthatbranch/laws.FnExactIsPairing", spec := "fnExactIsPairing", unfollowed := true, recurses := true, apart := false }
def FnExactIsPairingSaid : Prop := fnExactIsPairingRow.holds Try.pinned (OpenSpec.ofChange fnExactIsPairingSpec)

/-- ITS FALSE NEIGHBOUR: 'it returns false'. Refute it at one input. -/
def fnExactIsPairingWrong : ChangeSpec := { name := "fnExactIsPairing", fn := fun _ => fun
  | [d1, d2, d3, d4] => { results := [.lit (.bool false)], args := [d1, d2, d3, d4] }
  | _ => none }
def FnExactIsPairingWrongFalsely : Prop := fnExactIsPairingRow.holds Try.pinned (OpenSpec.ofChange fnExactIsPairingWrong)

/-- 'laws.FnExactPairOf': WHATEVER THE INPUT: true; the input reads as it did. -/
def fnExactPairOfSpec : ChangeSpec := { name := "fnExactPairOf", fn := fun _ => fun
  | [d1, d2, d3] => { results := [.lit (.bool true)], args := [d1, d2, d3] }
  | _ => none }
def fnExactPairOfRow : OpenClaim := { program := "ytmlihbcffndnbaa", sum := "4aecae34771c4d06713be138a9096c6fb5420ea6fafd32262589b1e84dc56a5f", func := "loop.example/ordersthatbranch/laws.FnExactPairOf", spec := "fnExactPairOf", unfollowed := true, recurses := true, apart := false }
def FnExactPairOfSaid : Prop := fnExactPairOfRow.holds Try.pinned (OpenSpec.ofChange fnExactPairOfSpec)

/-- ITS FALSE NEIGHBOUR: 'it returns false'. Refute it at one input. -/
def fnExactPairOfWrong : ChangeSpec := { name := "fnExactPairOf", fn := fun _ => fun
  | [d1, d2, d3] => { results := [.lit (.bool false)], args := [d1, d2, d3] }
  | _ => none }
def FnExactPairOfWrongFalsely : Prop := fnExactPairOfRow.holds Try.pinned (OpenSpec.ofChange fnExactPairOfWrong)

/-- 'laws.FnIsRising': WHATEVER THE INPUT: true; the input reads as it did. -/
def fnIsRisingSpec : ChangeSpec := { name := "fnIsRising", fn := fun _ => fun
  | [d] => { results := [.lit (.bool true)], args := [d] }
  | _ => none }
def fnIsRisingRow : OpenClaim := { program := "ytmlihbcffndnbaa", sum := "4aecae34771c4d06713be138a9096c6fb5420ea6fafd32262589b1e84dc56a5f", func := "loop.example/ordersthatbranch/laws.FnIsRising", spec := "fnIsRising", unfollowed := true, recurses := true, apart := false }
def FnIsRisingSaid : Prop := fnIsRisingRow.holds Try.pinned (OpenSpec.ofChange fnIsRisingSpec)

/-- ITS FALSE NEIGHBOUR: 'it returns false'. Refute it at one input. -/
def fnIsRisingWrong : ChangeSpec := { name := "fnIsRising", fn := fun _ => fun
  | [d] => { results := [.lit (.bool false)], args := [d] }
  | _ => none }
def FnIsRisingWrongFalsely : Prop := fnIsRisingRow.holds Try.pinned (OpenSpec.ofChange fnIsRisingWrong)

/-- 'laws.FnFixedOf': WHATEVER THE INPUT: true; the input reads as it did. -/
def fnFixedOfSpec : ChangeSpec := { name := "fnFixedOf", fn := fun _ => fun
  | [d] => { results := [.lit (.bool true)], args := [d] }
  | _ => none }
def fnFixedOfRow : OpenClaim := { program := "ytmlihbcffndnbaa", sum := "4aecae34771c4d06713be138a9096c6fb5420ea6fafd32262589b1e84dc56a5f", func := "loop.example/ordersthatbranch/laws.FnFixedOf", spec := "fnFixedOf", unfollowed := true, recurses := true, apart := false }
def FnFixedOfSaid : Prop := fnFixedOfRow.holds Try.pinned (OpenSpec.ofChange fnFixedOfSpec)

/-- ITS FALSE NEIGHBOUR: 'it returns false'. Refute it at one input. -/
def fnFixedOfWrong : ChangeSpec := { name := "fnFixedOf", fn := fun _ => fun
  | [d] => { results := [.lit (.bool false)], args := [d] }
  | _ => none }
def FnFixedOfWrongFalsely : Prop := fnFixedOfRow.holds Try.pinned (OpenSpec.ofChange fnFixedOfWrong)

/-- 'laws.FnIsPairing': WHATEVER THE INPUT: true; the input reads as it did. -/
def fnIsPairingSpec : ChangeSpec := { name := "fnIsPairing", fn := fun _ => fun
  | [d] => { results := [.lit (.bool true)], args := [d] }
  | _ => none }
def fnIsPairingRow : OpenClaim := { program := "ytmlihbcffndnbaa", sum := "4aecae34771c4d06713be138a9096c6fb5420ea6fafd32262589b1e84dc56a5f", func := "loop.example/ordersthatbranch/laws.FnIsPairing", spec := "fnIsPairing", unfollowed := true, recurses := true, apart := false }
def FnIsPairingSaid : Prop := fnIsPairingRow.holds Try.pinned (OpenSpec.ofChange fnIsPairingSpec)

/-- ITS FALSE NEIGHBOUR: 'it returns false'. Refute it at one input. -/
def fnIsPairingWrong : ChangeSpec := { name := "fnIsPairing", fn := fun _ => fun
  | [d] => { results := [.lit (.bool false)], args := [d] }
  | _ => none }
def FnIsPairingWrongFalsely : Prop := fnIsPairingRow.holds Try.pinned (OpenSpec.ofChange fnIsPairingWrong)

/-- 'laws.FnPairOf': WHATEVER THE INPUT: true; the input reads as it did. -/
def fnPairOfSpec : ChangeSpec := { name := "fnPairOf", fn := fun _ => fun
  | [d] => { results := [.lit (.bool true)], args := [d] }
  | _ => none }
def fnPairOfRow : OpenClaim := { program := "ytmlihbcffndnbaa", sum := "4aecae34771c4d06713be138a9096c6fb5420ea6fafd32262589b1e84dc56a5f", func := "loop.example/ordersthatbranch/laws.FnPairOf", spec := "fnPairOf", unfollowed := true, recurses := true, apart := false }
def FnPairOfSaid : Prop := fnPairOfRow.holds Try.pinned (OpenSpec.ofChange fnPairOfSpec)

/-- ITS FALSE NEIGHBOUR: 'it returns false'. Refute it at one input. -/
def fnPairOfWrong : ChangeSpec := { name := "fnPairOf", fn := fun _ => fun
  | [d] => { results := [.lit (.bool false)], args := [d] }
  | _ => none }
def FnPairOfWrongFalsely : Prop := fnPairOfRow.holds Try.pinned (OpenSpec.ofChange fnPairOfWrong)

/- THE SECOND FORM. 'bulk': how many values and letters a reading holds, each counted each time it is reached (what is shared counts as often as it is met; a slice's spare places count too). A statement '..UptoSaid' is the law's where the arguments, and the package variables that the reading takes, are together of bulk at most 1048576: NARROWER than '..Said'. Prove '..Said' where nothing that the law and all that it calls make is longer than what came in: it says more and counts as full. Else prove '..UptoSaid'. A law counts once. -/
mutual
def uptoBulk {H : Type} : DataW H → Nat
  | .lit (.string bytes) => bytes.length + 1
  | .lit _ => 1
  | .nil => 1
  | .ptr d => uptoBulk d + 1
  | .slice elems spare => uptoBulkAll elems + uptoBulkAll spare + 1
  | .agg parts => uptoBulkAll parts + 1
  | .iface _ d => uptoBulk d + 1
  | .map entries => uptoBulkEntries entries + 1
  | .held _ => 1
def uptoBulkAll {H : Type} : List (DataW H) → Nat
  | [] => 0
  | d :: r => uptoBulk d + uptoBulkAll r
def uptoBulkEntries {H : Type} : List (Lit × DataW H) → Nat
  | [] => 0
  | x :: r => uptoBulkEntry x + uptoBulkEntries r
def uptoBulkEntry {H : Type} : Lit × DataW H → Nat
  | (.string bytes, d) => bytes.length + uptoBulk d + 1
  | (_, d) => uptoBulk d + 1
 end
def uptoSmall : (H : Type) → List (DataW H) → Bool := fun _ ds => decide (uptoBulkAll ds ≤ 1048576)
def OpenSpec.upto (s : _root_.Go.ChangeSpec) : _root_.Go.OpenSpec := { _root_.Go.OpenSpec.ofChange s with cond := some uptoSmall }

/-- 'laws.FnExactIsRising', WHERE WHAT IT READS IS OF BULK AT MOST 1048576: true; the input reads as it did. -/
def fnExactIsRisingUptoRow : OpenClaim := { program := "ytmlihbcffndnbaa", sum := "4aecae34771c4d06713be138a9096c6fb5420ea6fafd32262589b1e84dc56a5f", func := "loop.example/ordersthatbranch/laws.FnExactIsRising", spec := "fnExactIsRising", unfollowed := true, recurses := true, apart := false, narrowed := true }
def FnExactIsRisingUptoSaid : Prop := fnExactIsRisingUptoRow.holds Try.pinned (OpenSpec.upto fnExactIsRisingSpec)

/-- 'laws.FnExactCountRising', WHERE WHAT IT READS IS OF BULK AT MOST 1048576: true; the input reads as it did. -/
def fnExactCountRisingUptoRow : OpenClaim := { program := "ytmlihbcffndnbaa", sum := "4aecae34771c4d06713be138a9096c6fb5420ea6fafd32262589b1e84dc56a5f", func := "loop.example/ordersthatbranch/laws.FnExactCountRising", spec := "fnExactCountRising", unfollowed := true, recurses := true, apart := false, narrowed := true }
def FnExactCountRisingUptoSaid : Prop := fnExactCountRisingUptoRow.holds Try.pinned (OpenSpec.upto fnExactCountRisingSpec)

/-- 'laws.FnExactFixedOf', WHERE WHAT IT READS IS OF BULK AT MOST 1048576: true; the input reads as it did. -/
def fnExactFixedOfUptoRow : OpenClaim := { program := "ytmlihbcffndnbaa", sum := "4aecae34771c4d06713be138a9096c6fb5420ea6fafd32262589b1e84dc56a5f", func := "loop.example/ordersthatbranch/laws.FnExactFixedOf", spec := "fnExactFixedOf", unfollowed := true, recurses := true, apart := false, narrowed := true }
def FnExactFixedOfUptoSaid : Prop := fnExactFixedOfUptoRow.holds Try.pinned (OpenSpec.upto fnExactFixedOfSpec)

/-- 'laws.FnExactIsPairing', WHERE WHAT IT READS IS OF BULK AT MOST 1048576: true; the input reads as it did. -/
def fnExactIsPairingUptoRow : OpenClaim := { program := "ytmlihbcffndnbaa", sum := "4aecae34771c4d06713be138a9096c6fb5420ea6fafd32262589b1e84dc56a5f", func := "loop.example/ordersthatbranch/laws.FnExactIsPairing", spec := "fnExactIsPairing", unfollowed := true, recurses := true, apart := false, narrowed := true }
def FnExactIsPairingUptoSaid : Prop := fnExactIsPairingUptoRow.holds Try.pinned (OpenSpec.upto fnExactIsPairingSpec)

/-- 'laws.FnExactPairOf', WHERE WHAT IT READS IS OF BULK AT MOST 1048576: true; the input reads as it did. -/
def fnExactPairOfUptoRow : OpenClaim := { program := "ytmlihbcffndnbaa", sum := "4aecae34771c4d06713be138a9096c6fb5420ea6fafd32262589b1e84dc56a5f", func := "loop.example/ordersthatbranch/laws.FnExactPairOf", spec := "fnExactPairOf", unfollowed := true, recurses := true, apart := false, narrowed := true }
def FnExactPairOfUptoSaid : Prop := fnExactPairOfUptoRow.holds Try.pinned (OpenSpec.upto fnExactPairOfSpec)

/-- 'laws.FnIsRising', WHERE WHAT IT READS IS OF BULK AT MOST 1048576: true; the input reads as it did. -/
def fnIsRisingUptoRow : OpenClaim := { program := "ytmlihbcffndnbaa", sum := "4aecae34771c4d06713be138a9096c6fb5420ea6fafd32262589b1e84dc56a5f", func := "loop.example/ordersthatbranch/laws.FnIsRising", spec := "fnIsRising", unfollowed := true, recurses := true, apart := false, narrowed := true }
def FnIsRisingUptoSaid : Prop := fnIsRisingUptoRow.holds Try.pinned (OpenSpec.upto fnIsRisingSpec)

/-- 'laws.FnFixedOf', WHERE WHAT IT READS IS OF BULK AT MOST 1048576: true; the input reads as it did. -/
def fnFixedOfUptoRow : OpenClaim := { program := "ytmlihbcffndnbaa", sum := "4aecae34771c4d06713be138a9096c6fb5420ea6fafd32262589b1e84dc56a5f", func := "loop.example/ordersthatbranch/laws.FnFixedOf", spec := "fnFixedOf", unfollowed := true, recurses := true, apart := false, narrowed := true }
def FnFixedOfUptoSaid : Prop := fnFixedOfUptoRow.holds Try.pinned (OpenSpec.upto fnFixedOfSpec)

/-- 'laws.FnIsPairing', WHERE WHAT IT READS IS OF BULK AT MOST 1048576: true; the input reads as it did. -/
def fnIsPairingUptoRow : OpenClaim := { program := "ytmlihbcffndnbaa", sum := "4aecae34771c4d06713be138a9096c6fb5420ea6fafd32262589b1e84dc56a5f", func := "loop.example/ordersthatbranch/laws.FnIsPairing", spec := "fnIsPairing", unfollowed := true, recurses := true, apart := false, narrowed := true }
def FnIsPairingUptoSaid : Prop := fnIsPairingUptoRow.holds Try.pinned (OpenSpec.upto fnIsPairingSpec)

/-- 'laws.FnPairOf', WHERE WHAT IT READS IS OF BULK AT MOST 1048576: true; the input reads as it did. -/
def fnPairOfUptoRow : OpenClaim := { program := "ytmlihbcffndnbaa", sum := "4aecae34771c4d06713be138a9096c6fb5420ea6fafd32262589b1e84dc56a5f", func := "loop.example/ordersthatbranch/laws.FnPairOf", spec := "fnPairOf", unfollowed := true, recurses := true, apart := false, narrowed := true }
def FnPairOfUptoSaid : Prop := fnPairOfUptoRow.holds Try.pinned (OpenSpec.upto fnPairOfSpec)

end Rows
end Go.Proofs.Ytmlihbcffndnbaa
