/-
  No cell of these rows narrows 'for every input' (looked for: loops, veiled, ifaces, maps, wideKeys, modest, calm, conditions, laid).
  DERIVED. THE GIVEN ROWS OF THIS SEAT. 9 by the template 'for every input the law returns true; each argument reads behind the call as it read before'; 0 by the template 'total and deterministic' (their statements: YtcadmjpkgnbodaaTotals.lean).
  GIVEN WITH THE SEED: the statements are not yours to turn. If you find one false, say at which input.
  Laid BY PROGRAM, IN A SANDBOX (cutbox-rows.mjs): the forced cells as the released guide's own fill.sh prints them over the translation 5dea04721f323b99… (all of the seat's roots in one cut). By AI agents, Wed Nov 11 2026. No macro, syntax, notation, axiom, sorry.
-/
import Derived.Test.YtcadmjpkgnbodaaChecked
import GoSem.Claim
import GoSem.ClaimJoined
import GoSem.ClaimMapViews
import Derived.JoinedTies
import Derived.KernelRfl
namespace Go.Proofs.Ytcadmjpkgnbodaa
/- THE CELL 'sum', in the pinned program and in every row, IS THE sha256 OF THE DUMP (.gsa) THAT YtcadmjpkgnbodaaProg.lean LOADS. Nothing in Lean hashes anything: it is a label: what it is worth is what the hold of that sum in a sandbox is worth. -/
noncomputable def Try.pinned : Pinned := { name := "ytcadmjpkgnbodaa", sum := "5dea04721f323b99a44c060c7d8c3fff349c7332bb31fdc696520820cbec75b6", checked := Try.checked }
namespace Rows
def none {H : Type} : Left H := { results := [], args := [] }

/-- 'laws.FnExactFewestChains': WHATEVER THE INPUT: true; the input reads as it did. -/
def fnExactFewestChainsSpec : ChangeSpec := { name := "fnExactFewestChains", fn := fun _ => fun
  | [d] => { results := [.lit (.bool true)], args := [d] }
  | _ => none }
def fnExactFewestChainsRow : OpenClaim := { program := "ytcadmjpkgnbodaa", sum := "5dea04721f323b99a44c060c7d8c3fff349c7332bb31fdc696520820cbec75b6", func := "loop.example/ordersthatbranch/laws.FnExactFewestChains", spec := "fnExactFewestChains", unfollowed := true, recurses := true, apart := false }
def FnExactFewestChainsSaid : Prop := fnExactFewestChainsRow.holds Try.pinned (OpenSpec.ofChange fnExactFewestChainsSpec)

/-- ITS FALSE NEIGHBOUR: 'it returns false'. Refute it at one input. -/
def fnExactFewestChainsWrong : ChangeSpec := { name := "fnExactFewestChains", fn := fun _ => fun
  | [d] => { results := [.lit (.bool false)], args := [d] }
  | _ => none }
def FnExactFewestChainsWrongFalsely : Prop := fnExactFewestChainsRow.holds Try.pinned (OpenSpec.ofChange fnExactFewestChainsWrong)

/-- 'laws.FnExactChainParts': WHATEVER THE INPUT: true; the input reads as it did. -/
def fnExactChainPartsSpec : ChangeSpec := { name := "fnExactChainParts", fn := fun _ => fun
  | [d] => { results := [.lit (.bool true)], args := [d] }
  | _ => none }
def fnExactChainPartsRow : OpenClaim := { program := "ytcadmjpkgnbodaa", sum := "5dea04721f323b99a44c060c7d8c3fff349c7332bb31fdc696520820cbec75b6", func := "loop.example/ordersthatbranch/laws.FnExactChainParts", spec := "fnExactChainParts", unfollowed := true, recurses := true, apart := false }
def FnExactChainPartsSaid : Prop := fnExactChainPartsRow.holds Try.pinned (OpenSpec.ofChange fnExactChainPartsSpec)

/-- ITS FALSE NEIGHBOUR: 'it returns false'. Refute it at one input. -/
def fnExactChainPartsWrong : ChangeSpec := { name := "fnExactChainParts", fn := fun _ => fun
  | [d] => { results := [.lit (.bool false)], args := [d] }
  | _ => none }
def FnExactChainPartsWrongFalsely : Prop := fnExactChainPartsRow.holds Try.pinned (OpenSpec.ofChange fnExactChainPartsWrong)

/-- 'laws.FnExactLinesOf': WHATEVER THE INPUT: true; the input reads as it did. -/
def fnExactLinesOfSpec : ChangeSpec := { name := "fnExactLinesOf", fn := fun _ => fun
  | [d] => { results := [.lit (.bool true)], args := [d] }
  | _ => none }
def fnExactLinesOfRow : OpenClaim := { program := "ytcadmjpkgnbodaa", sum := "5dea04721f323b99a44c060c7d8c3fff349c7332bb31fdc696520820cbec75b6", func := "loop.example/ordersthatbranch/laws.FnExactLinesOf", spec := "fnExactLinesOf", unfollowed := true, recurses := true, apart := false }
def FnExactLinesOfSaid : Prop := fnExactLinesOfRow.holds Try.pinned (OpenSpec.ofChange fnExactLinesOfSpec)

/-- ITS FALSE NEIGHBOUR: 'it returns false'. Refute it at one input. -/
def fnExactLinesOfWrong : ChangeSpec := { name := "fnExactLinesOf", fn := fun _ => fun
  | [d] => { results := [.lit (.bool false)], args := [d] }
  | _ => none }
def FnExactLinesOfWrongFalsely : Prop := fnExactLinesOfRow.holds Try.pinned (OpenSpec.ofChange fnExactLinesOfWrong)

/-- 'laws.FnFewestChains': WHATEVER THE INPUT: true; the input reads as it did. -/
def fnFewestChainsSpec : ChangeSpec := { name := "fnFewestChains", fn := fun _ => fun
  | [d] => { results := [.lit (.bool true)], args := [d] }
  | _ => none }
def fnFewestChainsRow : OpenClaim := { program := "ytcadmjpkgnbodaa", sum := "5dea04721f323b99a44c060c7d8c3fff349c7332bb31fdc696520820cbec75b6", func := "loop.example/ordersthatbranch/laws.FnFewestChains", spec := "fnFewestChains", unfollowed := true, recurses := true, apart := false }
def FnFewestChainsSaid : Prop := fnFewestChainsRow.holds Try.pinned (OpenSpec.ofChange fnFewestChainsSpec)

/-- ITS FALSE NEIGHBOUR: 'it returns false'. Refute it at one input. -/
def fnFewestChainsWrong : ChangeSpec := { name := "fnFewestChains", fn := fun _ => fun
  | [d] => { results := [.lit (.bool false)], args := [d] }
  | _ => none }
def FnFewestChainsWrongFalsely : Prop := fnFewestChainsRow.holds Try.pinned (OpenSpec.ofChange fnFewestChainsWrong)

/-- 'laws.FnChainParts': WHATEVER THE INPUT: true; the input reads as it did. -/
def fnChainPartsSpec : ChangeSpec := { name := "fnChainParts", fn := fun _ => fun
  | [d] => { results := [.lit (.bool true)], args := [d] }
  | _ => none }
def fnChainPartsRow : OpenClaim := { program := "ytcadmjpkgnbodaa", sum := "5dea04721f323b99a44c060c7d8c3fff349c7332bb31fdc696520820cbec75b6", func := "loop.example/ordersthatbranch/laws.FnChainParts", spec := "fnChainParts", unfollowed := true, recurses := true, apart := false }
def FnChainPartsSaid : Prop := fnChainPartsRow.holds Try.pinned (OpenSpec.ofChange fnChainPartsSpec)

/-- ITS FALSE NEIGHBOUR: 'it returns false'. Refute it at one input. -/
def fnChainPartsWrong : ChangeSpec := { name := "fnChainParts", fn := fun _ => fun
  | [d] => { results := [.lit (.bool false)], args := [d] }
  | _ => none }
def FnChainPartsWrongFalsely : Prop := fnChainPartsRow.holds Try.pinned (OpenSpec.ofChange fnChainPartsWrong)

/-- 'laws.FnLinesOf': WHATEVER THE INPUT: true; the input reads as it did. -/
def fnLinesOfSpec : ChangeSpec := { name := "fnLinesOf", fn := fun _ => fun
  | [d] => { results := [.lit (.bool true)], args := [d] }
  | _ => none }
def fnLinesOfRow : OpenClaim := { program := "ytcadmjpkgnbodaa", sum := "5dea04721f323b99a44c060c7d8c3fff349c7332bb31fdc696520820cbec75b6", func := "loop.example/ordersthatbranch/laws.FnLinesOf", spec := "fnLinesOf", unfollowed := true, recurses := true, apart := false }
def FnLinesOfSaid : Prop := fnLinesOfRow.holds Try.pinned (OpenSpec.ofChange fnLinesOfSpec)

/-- ITS FALSE NEIGHBOUR: 'it returns false'. Refute it at one input. -/
def fnLinesOfWrong : ChangeSpec := { name := "fnLinesOf", fn := fun _ => fun
  | [d] => { results := [.lit (.bool false)], args := [d] }
  | _ => none }
def FnLinesOfWrongFalsely : Prop := fnLinesOfRow.holds Try.pinned (OpenSpec.ofChange fnLinesOfWrong)

/-- 'laws.FnExactLineSums': WHATEVER THE INPUT: true; the input reads as it did. -/
def fnExactLineSumsSpec : ChangeSpec := { name := "fnExactLineSums", fn := fun _ => fun
  | [d] => { results := [.lit (.bool true)], args := [d] }
  | _ => none }
def fnExactLineSumsRow : OpenClaim := { program := "ytcadmjpkgnbodaa", sum := "5dea04721f323b99a44c060c7d8c3fff349c7332bb31fdc696520820cbec75b6", func := "loop.example/ordersthatbranch/laws.FnExactLineSums", spec := "fnExactLineSums", unfollowed := true, recurses := true, apart := false }
def FnExactLineSumsSaid : Prop := fnExactLineSumsRow.holds Try.pinned (OpenSpec.ofChange fnExactLineSumsSpec)

/-- ITS FALSE NEIGHBOUR: 'it returns false'. Refute it at one input. -/
def fnExactLineSumsWrong : ChangeSpec := { name := "fnExactLineSums", fn := fun _ => fun
  | [d] => { results := [.lit (.bool false)], args := [d] }
  | _ => none }
def FnExactLineSumsWrongFalsely : Prop := fnExactLineSumsRow.holds Try.pinned (OpenSpec.ofChange fnExactLineSumsWrong)

/-- 'laws.FnExactFallsBelow': WHATEVER THE INPUT: true; the input reads as it did. -/
def fnExactFallsBelowSpec : ChangeSpec := { name := "fnExactFallsBelow", fn := fun _ => fun
  | [d] => { results := [.lit (.bool true)], args := [d] }
  | _ => none }
def fnExactFallsBelowRow : OpenClaim := { program := "ytcadmjpkgnbodaa", sum := "5dea04721f323b99a44c060c7d8c3fff349c7332bb31fdc696520820cbec75b6", func := "loop.example/ordersthatbranch/laws.FnExactFallsBelow", spec := "fnExactFallsBelow", unfollowed := true, recurses := true, apart := false }
def FnExactFallsBelowSaid : Prop := fnExactFallsBelowRow.holds Try.pinned (OpenSpec.ofChange fnExactFallsBelowSpec)

/-- ITS FALSE NEIGHBOUR: 'it returns false'. Refute it at one input. -/
def fnExactFallsBelowWrong : ChangeSpec := { name := "fnExactFallsBelow", fn := fun _ => fun
  | [d] => { results := [.lit (.bool false)], args := [d] }
  | _ => none }
def FnExactFallsBelowWrongFalsely : Prop := fnExactFallsBelowRow.holds Try.pinned (OpenSpec.ofChange fnExactFallsBelowWrong)

/-- 'laws.FnFallsBelow': WHATEVER THE INPUT: true; the input reads as it did. -/
def fnFallsBelowSpec : ChangeSpec := { name := "fnFallsBelow", fn := fun _ => fun
  | [d] => { results := [.lit (.bool true)], args := [d] }
  | _ => none }
def fnFallsBelowRow : OpenClaim := { program := "ytcadmjpkgnbodaa", sum := "5dea04721f323b99a44c060c7d8c3fff349c7332bb31fdc696520820cbec75b6", func := "loop.example/ordersthatbranch/laws.FnFallsBelow", spec := "fnFallsBelow", unfollowed := true, recurses := true, apart := false }
def FnFallsBelowSaid : Prop := fnFallsBelowRow.holds Try.pinned (OpenSpec.ofChange fnFallsBelowSpec)

/-- ITS FALSE NEIGHBOUR: 'it returns false'. Refute it at one input. -/
def fnFallsBelowWrong : ChangeSpec := { name := "fnFallsBelow", fn := fun _ => fun
  | [d] => { results := [.lit (.bool false)], args := [d] }
  | _ => none }
def FnFallsBelowWrongFalsely : Prop := fnFallsBelowRow.holds Try.pinned (OpenSpec.ofChange fnFallsBelowWrong)

/- THE SECOND FORM. 'bulk': how many values and letters a reading holds, each counted each time it is reached (what is shared counts as often as it is met; a slice's spare places count too). A statement '..UptoSaid' is the law's where the arguments, and the package variables that the reading takes, are together of bulk at most 1048576: NARROWER than '..Said'. Prove '..Said' where nothing that the law and all that it calls make is longer than what came in: it says more and counts as full. Else prove '..UptoSaid'. A law counts once. -/
mutual
def uptoBulk {H : Type} : DataW H → Nat
  | .lit (.string bytes) => bytes.length + 1
  | .lit _ => 1
  | .nil => 1
  | .ptr d => uptoBulk d + 1
  | .slice elems spare => uptoBulkAll elems + uptoBulkAll spare + 1
  | .agg parts => uptoBulkAll parts + 1
  | .iface _ d => uptoBulk d + 1
  | .map entries => uptoBulkEntries entries + 1
  | .held _ => 1
def uptoBulkAll {H : Type} : List (DataW H) → Nat
  | [] => 0
  | d :: r => uptoBulk d + uptoBulkAll r
def uptoBulkEntries {H : Type} : List (Lit × DataW H) → Nat
  | [] => 0
  | x :: r => uptoBulkEntry x + uptoBulkEntries r
def uptoBulkEntry {H : Type} : Lit × DataW H → Nat
  | (.string bytes, d) => bytes.length + uptoBulk d + 1
  | (_, d) => uptoBulk d + 1
 end
def uptoSmall : (H : Type) → List (DataW H) → Bool := fun _ ds => decide (uptoBulkAll ds ≤ 1048576)
def OpenSpec.upto (s : _root_.Go.ChangeSpec) : _root_.Go.OpenSpec := { _root_.Go.OpenSpec.ofChange s with cond := some uptoSmall }

/-- 'laws.FnExactFewestChains', WHERE WHAT IT READS IS OF BULK AT MOST 1048576: true; the input reads as it did. -/
def fnExactFewestChainsUptoRow : OpenClaim := { program := "ytcadmjpkgnbodaa", sum := "5dea04721f323b99a44c060c7d8c3fff349c7332bb31fdc696520820cbec75b6", func := "loop.example/ordersthatbranch/laws.FnExactFewestChains", spec := "fnExactFewestChains", unfollowed := true, recurses := true, apart := false, narrowed := true }
def FnExactFewestChainsUptoSaid : Prop := fnExactFewestChainsUptoRow.holds Try.pinned (OpenSpec.upto fnExactFewestChainsSpec)

/-- 'laws.FnExactChainParts', WHERE WHAT IT READS IS OF BULK AT MOST 1048576: true; the input reads as it did. -/
def fnExactChainPartsUptoRow : OpenClaim := { program := "ytcadmjpkgnbodaa", sum := "5dea04721f323b99a44c060c7d8c3fff349c7332bb31fdc696520820cbec75b6", func := "loop.example/ordersthatbranch/laws.FnExactChainParts", spec := "fnExactChainParts", unfollowed := true, recurses := true, apart := false, narrowed := true }
def FnExactChainPartsUptoSaid : Prop := fnExactChainPartsUptoRow.holds Try.pinned (OpenSpec.upto fnExactChainPartsSpec)

/-- 'laws.FnExactLinesOf', WHERE WHAT IT READS IS OF BULK AT MOST 1048576: true; the input reads as it did. -/
def fnExactLinesOfUptoRow : OpenClaim := { program := "ytcadmjpkgnbodaa", sum := "5dea04721f323b99a44c060c7d8c3fff349c7332bb31fdc696520820cbec75b6", func := "loop.example/ordersthatbranch/laws.FnExactLinesOf", spec := "fnExactLinesOf", unfollowed := true, recurses := true, apart := false, narrowed := true }
def FnExactLinesOfUptoSaid : Prop := fnExactLinesOfUptoRow.holds Try.pinned (OpenSpec.upto fnExactLinesOfSpec)

/-- 'laws.FnFewestChains', WHERE WHAT IT READS IS OF BULK AT MOST 1048576: true; the input reads as it did. -/
def fnFewestChainsUptoRow : OpenClaim := { program := "ytcadmjpkgnbodaa", sum := "5dea04721f323b99a44c060c7d8c3fff349c7332bb31fdc696520820cbec75b6", func := "loop.example/ordersthatbranch/laws.FnFewestChains", spec := "fnFewestChains", unfollowed := true, recurses := true, apart := false, narrowed := true }
def FnFewestChainsUptoSaid : Prop := fnFewestChainsUptoRow.holds Try.pinned (OpenSpec.upto fnFewestChainsSpec)

/-- 'laws.FnChainParts', WHERE WHAT IT READS IS OF BULK AT MOST 1048576: true; the input reads as it did. -/
def fnChainPartsUptoRow : OpenClaim := { program := "ytcadmjpkgnbodaa", sum := "5dea04721f323b99a44c060c7d8c3fff349c7332bb31fdc696520820cbec75b6", func := "loop.example/ordersthatbranch/laws.FnChainParts", spec := "fnChainParts", unfollowed := true, recurses := true, apart := false, narrowed := true }
def FnChainPartsUptoSaid : Prop := fnChainPartsUptoRow.holds Try.pinned (OpenSpec.upto fnChainPartsSpec)

/-- 'laws.FnLinesOf', WHERE WHAT IT READS IS OF BULK AT MOST 1048576: true; the input reads as it did. -/
def fnLinesOfUptoRow : OpenClaim := { program := "ytcadmjpkgnbodaa", sum := "5dea04721f323b99a44c060c7d8c3fff349c7332bb31fdc696520820cbec75b6", func := "loop.example/ordersthatbranch/laws.FnLinesOf", spec := "fnLinesOf", unfollowed := true, recurses := true, apart := false, narrowed := true }
def FnLinesOfUptoSaid : Prop := fnLinesOfUptoRow.holds Try.pinned (OpenSpec.upto fnLinesOfSpec)

/-- 'laws.FnExactLineSums', WHERE WHAT IT READS IS OF BULK AT MOST 1048576: true; the input reads as it did. -/
def fnExactLineSumsUptoRow : OpenClaim := { program := "ytcadmjpkgnbodaa", sum := "5dea04721f323b99a44c060c7d8c3fff349c7332bb31fdc696520820cbec75b6", func := "loop.example/ordersthatbranch/laws.FnExactLineSums", spec := "fnExactLineSums", unfollowed := true, recurses := true, apart := false, narrowed := true }
def FnExactLineSumsUptoSaid : Prop := fnExactLineSumsUptoRow.holds Try.pinned (OpenSpec.upto fnExactLineSumsSpec)

/-- 'laws.FnExactFallsBelow', WHERE WHAT IT READS IS OF BULK AT MOST 1048576: true; the input reads as it did. -/
def fnExactFallsBelowUptoRow : OpenClaim := { program := "ytcadmjpkgnbodaa", sum := "5dea04721f323b99a44c060c7d8c3fff349c7332bb31fdc696520820cbec75b6", func := "loop.example/ordersthatbranch/laws.FnExactFallsBelow", spec := "fnExactFallsBelow", unfollowed := true, recurses := true, apart := false, narrowed := true }
def FnExactFallsBelowUptoSaid : Prop := fnExactFallsBelowUptoRow.holds Try.pinned (OpenSpec.upto fnExactFallsBelowSpec)

/-- 'laws.FnFallsBelow', WHERE WHAT IT READS IS OF BULK AT MOST 1048576: true; the input reads as it did. -/
def fnFallsBelowUptoRow : OpenClaim := { program := "ytcadmjpkgnbodaa", sum := "5dea04721f323b99a44c060c7d8c3fff349c7332bb31fdc696520820cbec75b6", func := "loop.example/ordersthatbranch/laws.FnFallsBelow", spec := "fnFallsBelow", unfollowed := true, recurses := true, apart := false, narrowed := true }
def FnFallsBelowUptoSaid : Prop := fnFallsBelowUptoRow.holds Try.pinned (OpenSpec.upto fnFallsBelowSpec)

end Rows
end Go.Proofs.Ytcadmjpkgnbodaa
