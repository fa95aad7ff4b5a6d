/-
  No cell of these rows narrows 'for every input' (looked for: loops, veiled, ifaces, maps, wideKeys, modest, calm, conditions, laid).
  DERIVED. THE GIVEN ROWS OF THIS SEAT. 7 by the template 'for every input the law returns true; each argument reads behind the call as it read before'; 0 by the template 'total and deterministic' (their statements: YtaacbnolijelhaaTotals.lean).
  GIVEN WITH THE SEED: the statements are not yours to turn. If you find one false, say at which input.
  Laid BY PROGRAM, IN A SANDBOX (cutbox-rows.mjs): the forced cells as the released guide's own fill.sh prints them over the translation b3e978e1fa65fd0a… (all of the seat's roots in one cut). By AI agents, Wed Nov 11 2026. No macro, syntax, notation, axiom, sorry.
-/
import Derived.Test.YtaacbnolijelhaaChecked
import GoSem.Claim
import GoSem.ClaimJoined
import GoSem.ClaimMapViews
import Derived.JoinedTies
import Derived.KernelRfl
namespace Go.Proofs.Ytaacbnolijelhaa
/- THE CELL 'sum', in the pinned program and in every row, IS THE sha256 OF THE DUMP (.gsa) THAT YtaacbnolijelhaaProg.lean LOADS. Nothing in Lean hashes anything: it is a label: what it is worth is what the hold of that sum in a sandbox is worth. -/
noncomputable def Try.pinned : Pinned := { name := "ytaacbnolijelhaa", sum := "b3e978e1fa65fd0aa8530001b11b07c12cb39e25350d0075d9ebf7eb4cffb00c", checked := Try.checked }
namespace Rows
def none {H : Type} : Left H := { results := [], args := [] }

/-- 'laws.FnExactHasZigzag': WHATEVER THE INPUT: true; the input reads as it did. -/
def fnExactHasZigzagSpec : ChangeSpec := { name := "fnExactHasZigzag", fn := fun _ => fun
  | [d] => { results := [.lit (.bool true)], args := [d] }
  | _ => none }
def fnExactHasZigzagRow : OpenClaim := { program := "ytaacbnolijelhaa", sum := "b3e978e1fa65fd0aa8530001b11b07c12cb39e25350d0075d9ebf7eb4cffb00c", func := "loop.example/ordersthatbranch/laws.FnExactHasZigzag", spec := "fnExactHasZigzag", unfollowed := true, recurses := true, apart := false }
def FnExactHasZigzagSaid : Prop := fnExactHasZigzagRow.holds Try.pinned (OpenSpec.ofChange fnExactHasZigzagSpec)

/-- ITS FALSE NEIGHBOUR: 'it returns false'. Refute it at one input. -/
def fnExactHasZigzagWrong : ChangeSpec := { name := "fnExactHasZigzag", fn := fun _ => fun
  | [d] => { results := [.lit (.bool false)], args := [d] }
  | _ => none }
def FnExactHasZigzagWrongFalsely : Prop := fnExactHasZigzagRow.holds Try.pinned (OpenSpec.ofChange fnExactHasZigzagWrong)

/-- 'laws.FnExactFewestChains': WHATEVER THE INPUT: true; the input reads as it did. -/
def fnExactFewestChainsSpec : ChangeSpec := { name := "fnExactFewestChains", fn := fun _ => fun
  | [d] => { results := [.lit (.bool true)], args := [d] }
  | _ => none }
def fnExactFewestChainsRow : OpenClaim := { program := "ytaacbnolijelhaa", sum := "b3e978e1fa65fd0aa8530001b11b07c12cb39e25350d0075d9ebf7eb4cffb00c", func := "loop.example/ordersthatbranch/laws.FnExactFewestChains", spec := "fnExactFewestChains", unfollowed := true, recurses := true, apart := false }
def FnExactFewestChainsSaid : Prop := fnExactFewestChainsRow.holds Try.pinned (OpenSpec.ofChange fnExactFewestChainsSpec)

/-- ITS FALSE NEIGHBOUR: 'it returns false'. Refute it at one input. -/
def fnExactFewestChainsWrong : ChangeSpec := { name := "fnExactFewestChains", fn := fun _ => fun
  | [d] => { results := [.lit (.bool false)], args := [d] }
  | _ => none }
def FnExactFewestChainsWrongFalsely : Prop := fnExactFewestChainsRow.holds Try.pinned (OpenSpec.ofChange fnExactFewestChainsWrong)

/-- 'laws.FnExactChainParts': WHATEVER THE INPUT: true; the input reads as it did. -/
def fnExactChainPartsSpec : ChangeSpec := { name := "fnExactChainParts", fn := fun _ => fun
  | [d] => { results := [.lit (.bool true)], args := [d] }
  | _ => none }
def fnExactChainPartsRow : OpenClaim := { program := "ytaacbnolijelhaa", sum := "b3e978e1fa65fd0aa8530001b11b07c12cb39e25350d0075d9ebf7eb4cffb00c", func := "loop.example/ordersthatbranch/laws.FnExactChainParts", spec := "fnExactChainParts", unfollowed := true, recurses := true, apart := false }
def FnExactChainPartsSaid : Prop := fnExactChainPartsRow.holds Try.pinned (OpenSpec.ofChange fnExactChainPartsSpec)

/-- ITS FALSE NEIGHBOUR: 'it returns false'. Refute it at one input. -/
def fnExactChainPartsWrong : ChangeSpec := { name := "fnExactChainParts", fn := fun _ => fun
  | [d] => { results := [.lit (.bool false)], args := [d] }
  | _ => none }
def FnExactChainPartsWrongFalsely : Prop := fnExactChainPartsRow.holds Try.pinned (OpenSpec.ofChange fnExactChainPartsWrong)

/-- 'laws.FnExactLinesOf': WHATEVER THE INPUT: true; the input reads as it did. -/
def fnExactLinesOfSpec : ChangeSpec := { name := "fnExactLinesOf", fn := fun _ => fun
  | [d] => { results := [.lit (.bool true)], args := [d] }
  | _ => none }
def fnExactLinesOfRow : OpenClaim := { program := "ytaacbnolijelhaa", sum := "b3e978e1fa65fd0aa8530001b11b07c12cb39e25350d0075d9ebf7eb4cffb00c", func := "loop.example/ordersthatbranch/laws.FnExactLinesOf", spec := "fnExactLinesOf", unfollowed := true, recurses := true, apart := false }
def FnExactLinesOfSaid : Prop := fnExactLinesOfRow.holds Try.pinned (OpenSpec.ofChange fnExactLinesOfSpec)

/-- ITS FALSE NEIGHBOUR: 'it returns false'. Refute it at one input. -/
def fnExactLinesOfWrong : ChangeSpec := { name := "fnExactLinesOf", fn := fun _ => fun
  | [d] => { results := [.lit (.bool false)], args := [d] }
  | _ => none }
def FnExactLinesOfWrongFalsely : Prop := fnExactLinesOfRow.holds Try.pinned (OpenSpec.ofChange fnExactLinesOfWrong)

/-- 'laws.FnFewestChains': WHATEVER THE INPUT: true; the input reads as it did. -/
def fnFewestChainsSpec : ChangeSpec := { name := "fnFewestChains", fn := fun _ => fun
  | [d] => { results := [.lit (.bool true)], args := [d] }
  | _ => none }
def fnFewestChainsRow : OpenClaim := { program := "ytaacbnolijelhaa", sum := "b3e978e1fa65fd0aa8530001b11b07c12cb39e25350d0075d9ebf7eb4cffb00c", func := "loop.example/ordersthatbranch/laws.FnFewestChains", spec := "fnFewestChains", unfollowed := true, recurses := true, apart := false }
def FnFewestChainsSaid : Prop := fnFewestChainsRow.holds Try.pinned (OpenSpec.ofChange fnFewestChainsSpec)

/-- ITS FALSE NEIGHBOUR: 'it returns false'. Refute it at one input. -/
def fnFewestChainsWrong : ChangeSpec := { name := "fnFewestChains", fn := fun _ => fun
  | [d] => { results := [.lit (.bool false)], args := [d] }
  | _ => none }
def FnFewestChainsWrongFalsely : Prop := fnFewestChainsRow.holds Try.pinned (OpenSpec.ofChange fnFewestChainsWrong)

/-- 'laws.FnChainParts': WHATEVER THE INPUT: true; the input reads as it did. -/
def fnChainPartsSpec : ChangeSpec := { name := "fnChainParts", fn := fun _ => fun
  | [d] => { results := [.lit (.bool true)], args := [d] }
  | _ => none }
def fnChainPartsRow : OpenClaim := { program := "ytaacbnolijelhaa", sum := "b3e978e1fa65fd0aa8530001b11b07c12cb39e25350d0075d9ebf7eb4cffb00c", func := "loop.example/ordersthatbranch/laws.FnChainParts", spec := "fnChainParts", unfollowed := true, recurses := true, apart := false }
def FnChainPartsSaid : Prop := fnChainPartsRow.holds Try.pinned (OpenSpec.ofChange fnChainPartsSpec)

/-- ITS FALSE NEIGHBOUR: 'it returns false'. Refute it at one input. -/
def fnChainPartsWrong : ChangeSpec := { name := "fnChainParts", fn := fun _ => fun
  | [d] => { results := [.lit (.bool false)], args := [d] }
  | _ => none }
def FnChainPartsWrongFalsely : Prop := fnChainPartsRow.holds Try.pinned (OpenSpec.ofChange fnChainPartsWrong)

/-- 'laws.FnLinesOf': WHATEVER THE INPUT: true; the input reads as it did. -/
def fnLinesOfSpec : ChangeSpec := { name := "fnLinesOf", fn := fun _ => fun
  | [d] => { results := [.lit (.bool true)], args := [d] }
  | _ => none }
def fnLinesOfRow : OpenClaim := { program := "ytaacbnolijelhaa", sum := "b3e978e1fa65fd0aa8530001b11b07c12cb39e25350d0075d9ebf7eb4cffb00c", func := "loop.example/ordersthatbranch/laws.FnLinesOf", spec := "fnLinesOf", unfollowed := true, recurses := true, apart := false }
def FnLinesOfSaid : Prop := fnLinesOfRow.holds Try.pinned (OpenSpec.ofChange fnLinesOfSpec)

/-- ITS FALSE NEIGHBOUR: 'it returns false'. Refute it at one input. -/
def fnLinesOfWrong : ChangeSpec := { name := "fnLinesOf", fn := fun _ => fun
  | [d] => { results := [.lit (.bool false)], args := [d] }
  | _ => none }
def FnLinesOfWrongFalsely : Prop := fnLinesOfRow.holds Try.pinned (OpenSpec.ofChange fnLinesOfWrong)

/- THE SECOND FORM. 'bulk': how many values and letters a reading holds, each counted each time it is reached (what is shared counts as often as it is met; a slice's spare places count too). A statement '..UptoSaid' is the law's where the arguments, and the package variables that the reading takes, are together of bulk at most 1048576: NARROWER than '..Said'. Prove '..Said' where nothing that the law and all that it calls make is longer than what came in: it says more and counts as full. Else prove '..UptoSaid'. A law counts once. -/
mutual
def uptoBulk {H : Type} : DataW H → Nat
  | .lit (.string bytes) => bytes.length + 1
  | .lit _ => 1
  | .nil => 1
  | .ptr d => uptoBulk d + 1
  | .slice elems spare => uptoBulkAll elems + uptoBulkAll spare + 1
  | .agg parts => uptoBulkAll parts + 1
  | .iface _ d => uptoBulk d + 1
  | .map entries => uptoBulkEntries entries + 1
  | .held _ => 1
def uptoBulkAll {H : Type} : List (DataW H) → Nat
  | [] => 0
  | d :: r => uptoBulk d + uptoBulkAll r
def uptoBulkEntries {H : Type} : List (Lit × DataW H) → Nat
  | [] => 0
  | x :: r => uptoBulkEntry x + uptoBulkEntries r
def uptoBulkEntry {H : Type} : Lit × DataW H → Nat
  | (.string bytes, d) => bytes.length + uptoBulk d + 1
  | (_, d) => uptoBulk d + 1
 end
def uptoSmall : (H : Type) → List (DataW H) → Bool := fun _ ds => decide (uptoBulkAll ds ≤ 1048576)
def OpenSpec.upto (s : _root_.Go.ChangeSpec) : _root_.Go.OpenSpec := { _root_.Go.OpenSpec.ofChange s with cond := some uptoSmall }

/-- 'laws.FnExactHasZigzag', WHERE WHAT IT READS IS OF BULK AT MOST 1048576: true; the input reads as it did. -/
def fnExactHasZigzagUptoRow : OpenClaim := { program := "ytaacbnolijelhaa", sum := "b3e978e1fa65fd0aa8530001b11b07c12cb39e25350d0075d9ebf7eb4cffb00c", func := "loop.example/ordersthatbranch/laws.FnExactHasZigzag", spec := "fnExactHasZigzag", unfollowed := true, recurses := true, apart := false, narrowed := true }
def FnExactHasZigzagUptoSaid : Prop := fnExactHasZigzagUptoRow.holds Try.pinned (OpenSpec.upto fnExactHasZigzagSpec)

/-- 'laws.FnExactFewestChains', WHERE WHAT IT READS IS OF BULK AT MOST 1048576: true; the input reads as it did. -/
def fnExactFewestChainsUptoRow : OpenClaim := { program := "ytaacbnolijelhaa", sum := "b3e978e1fa65fd0aa8530001b11b07c12cb39e25350d0075d9ebf7eb4cffb00c", func := "loop.example/ordersthatbranch/laws.FnExactFewestChains", spec := "fnExactFewestChains", unfollowed := true, recurses := true, apart := false, narrowed := true }
def FnExactFewestChainsUptoSaid : Prop := fnExactFewestChainsUptoRow.holds Try.pinned (OpenSpec.upto fnExactFewestChainsSpec)

/-- 'laws.FnExactChainParts', WHERE WHAT IT READS IS OF BULK AT MOST 1048576: true; the input reads as it did. -/
def fnExactChainPartsUptoRow : OpenClaim := { program := "ytaacbnolijelhaa", sum := "b3e978e1fa65fd0aa8530001b11b07c12cb39e25350d0075d9ebf7eb4cffb00c", func := "loop.example/ordersthatbranch/laws.FnExactChainParts", spec := "fnExactChainParts", unfollowed := true, recurses := true, apart := false, narrowed := true }
def FnExactChainPartsUptoSaid : Prop := fnExactChainPartsUptoRow.holds Try.pinned (OpenSpec.upto fnExactChainPartsSpec)

/-- 'laws.FnExactLinesOf', WHERE WHAT IT READS IS OF BULK AT MOST 1048576: true; the input reads as it did. -/
def fnExactLinesOfUptoRow : OpenClaim := { program := "ytaacbnolijelhaa", sum := "b3e978e1fa65fd0aa8530001b11b07c12cb39e25350d0075d9ebf7eb4cffb00c", func := "loop.example/ordersthatbranch/laws.FnExactLinesOf", spec := "fnExactLinesOf", unfollowed := true, recurses := true, apart := false, narrowed := true }
def FnExactLinesOfUptoSaid : Prop := fnExactLinesOfUptoRow.holds Try.pinned (OpenSpec.upto fnExactLinesOfSpec)

/-- 'laws.FnFewestChains', WHERE WHAT IT READS IS OF BULK AT MOST 1048576: true; the input reads as it did. -/
def fnFewestChainsUptoRow : OpenClaim := { program := "ytaacbnolijelhaa", sum := "b3e978e1fa65fd0aa8530001b11b07c12cb39e25350d0075d9ebf7eb4cffb00c", func := "loop.example/ordersthatbranch/laws.FnFewestChains", spec := "fnFewestChains", unfollowed := true, recurses := true, apart := false, narrowed := true }
def FnFewestChainsUptoSaid : Prop := fnFewestChainsUptoRow.holds Try.pinned (OpenSpec.upto fnFewestChainsSpec)

/-- 'laws.FnChainParts', WHERE WHAT IT READS IS OF BULK AT MOST 1048576: true; the input reads as it did. -/
def fnChainPartsUptoRow : OpenClaim := { program := "ytaacbnolijelhaa", sum := "b3e978e1fa65fd0aa8530001b11b07c12cb39e25350d0075d9ebf7eb4cffb00c", func := "loop.example/ordersthatbranch/laws.FnChainParts", spec := "fnChainParts", unfollowed := true, recurses := true, apart := false, narrowed := true }
def FnChainPartsUptoSaid : Prop := fnChainPartsUptoRow.holds Try.pinned (OpenSpec.upto fnChainPartsSpec)

/-- 'laws.FnLinesOf', WHERE WHAT IT READS IS OF BULK AT MOST 1048576: true; the input reads as it did. -/
def fnLinesOfUptoRow : OpenClaim := { program := "ytaacbnolijelhaa", sum := "b3e978e1fa65fd0aa8530001b11b07c12cb39e25350d0075d9ebf7eb4cffb00c", func := "loop.example/ordersthatbranch/laws.FnLinesOf", spec := "fnLinesOf", unfollowed := true, recurses := true, apart := false, narrowed := true }
def FnLinesOfUptoSaid : Prop := fnLinesOfUptoRow.holds Try.pinned (OpenSpec.upto fnLinesOfSpec)

end Rows
end Go.Proofs.Ytaacbnolijelhaa
