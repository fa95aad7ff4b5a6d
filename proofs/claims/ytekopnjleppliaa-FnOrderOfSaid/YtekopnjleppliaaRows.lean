/-
  No cell of these rows narrows 'for every input' (looked for: loops, veiled, ifaces, maps, wideKeys, modest, calm, conditions, laid).
  DERIVED. THE GIVEN ROWS OF THIS SEAT. 12 by the template 'for every input the law returns true; each argument reads behind the call as it read before'; 0 by the template 'total and deterministic' (their statements: YtekopnjleppliaaTotals.lean).
  GIVEN WITH THE SEED: the statements are not yours to turn. If you find one false, say at which input.
  Laid BY PROGRAM, IN A SANDBOX (cutbox-rows.mjs): the forced cells as the released guide's own fill.sh prints them over the translation 658e45db984b0154… (all of the seat's roots in one cut). By AI agents, Wed Nov 11 2026. No macro, syntax, notation, axiom, sorry.
-/
import Derived.Test.YtekopnjleppliaaChecked
import GoSem.Claim
import GoSem.ClaimJoined
import GoSem.ClaimMapViews
import Derived.JoinedTies
import Derived.KernelRfl
namespace Go.Proofs.Ytekopnjleppliaa
/- THE CELL 'sum', in the pinned program and in every row, IS THE sha256 OF THE DUMP (.gsa) THAT YtekopnjleppliaaProg.lean LOADS. Nothing in Lean hashes anything: it is a label: what it is worth is what the hold of that sum in a sandbox is worth. -/
noncomputable def Try.pinned : Pinned := { name := "ytekopnjleppliaa", sum := "658e45db984b015400a78a05b2d2fcda951fb188d0e672391ce958d3165fdf71", checked := Try.checked }
namespace Rows
def none {H : Type} : Left H := { results := [], args := [] }

/-- 'laws.FnExactIsChain': WHATEVER THE INPUT: true; the input reads as it did. -/
def fnExactIsChainSpec : ChangeSpec := { name := "fnExactIsChain", fn := fun _ => fun
  | [d1, d2] => { results := [.lit (.bool true)], args := [d1, d2] }
  | _ => none }
def fnExactIsChainRow : OpenClaim := { program := "ytekopnjleppliaa", sum := "658e45db984b015400a78a05b2d2fcda951fb188d0e672391ce958d3165fdf71", func := "loop.example/ordersthatbranch/laws.FnExactIsChain", spec := "fnExactIsChain", unfollowed := true, recurses := true, apart := false }
def FnExactIsChainSaid : Prop := fnExactIsChainRow.holds Try.pinned (OpenSpec.ofChange fnExactIsChainSpec)

/-- ITS FALSE NEIGHBOUR: 'it returns false'. Refute it at one input. -/
def fnExactIsChainWrong : ChangeSpec := { name := "fnExactIsChain", fn := fun _ => fun
  | [d1, d2] => { results := [.lit (.bool false)], args := [d1, d2] }
  | _ => none }
def FnExactIsChainWrongFalsely : Prop := fnExactIsChainRow.holds Try.pinned (OpenSpec.ofChange fnExactIsChainWrong)

/-- 'laws.FnExactIsApart': WHATEVER THE INPUT: true; the input reads as it did. -/
def fnExactIsApartSpec : ChangeSpec := { name := "fnExactIsApart", fn := fun _ => fun
  | [d1, d2] => { results := [.lit (.bool true)], args := [d1, d2] }
  | _ => none }
def fnExactIsApartRow : OpenClaim := { program := "ytekopnjleppliaa", sum := "658e45db984b015400a78a05b2d2fcda951fb188d0e672391ce958d3165fdf71", func := "loop.example/ordersthatbranch/laws.FnExactIsApart", spec := "fnExactIsApart", unfollowed := true, recurses := true, apart := false }
def FnExactIsApartSaid : Prop := fnExactIsApartRow.holds Try.pinned (OpenSpec.ofChange fnExactIsApartSpec)

/-- ITS FALSE NEIGHBOUR: 'it returns false'. Refute it at one input. -/
def fnExactIsApartWrong : ChangeSpec := { name := "fnExactIsApart", fn := fun _ => fun
  | [d1, d2] => { results := [.lit (.bool false)], args := [d1, d2] }
  | _ => none }
def FnExactIsApartWrongFalsely : Prop := fnExactIsApartRow.holds Try.pinned (OpenSpec.ofChange fnExactIsApartWrong)

/-- 'laws.FnExactLongestChain': WHATEVER THE INPUT: true; the input reads as it did. -/
def fnExactLongestChainSpec : ChangeSpec := { name := "fnExactLongestChain", fn := fun _ => fun
  | [d] => { results := [.lit (.bool true)], args := [d] }
  | _ => none }
def fnExactLongestChainRow : OpenClaim := { program := "ytekopnjleppliaa", sum := "658e45db984b015400a78a05b2d2fcda951fb188d0e672391ce958d3165fdf71", func := "loop.example/ordersthatbranch/laws.FnExactLongestChain", spec := "fnExactLongestChain", unfollowed := true, recurses := true, apart := false }
def FnExactLongestChainSaid : Prop := fnExactLongestChainRow.holds Try.pinned (OpenSpec.ofChange fnExactLongestChainSpec)

/-- ITS FALSE NEIGHBOUR: 'it returns false'. Refute it at one input. -/
def fnExactLongestChainWrong : ChangeSpec := { name := "fnExactLongestChain", fn := fun _ => fun
  | [d] => { results := [.lit (.bool false)], args := [d] }
  | _ => none }
def FnExactLongestChainWrongFalsely : Prop := fnExactLongestChainRow.holds Try.pinned (OpenSpec.ofChange fnExactLongestChainWrong)

/-- 'laws.FnExactWidestApart': WHATEVER THE INPUT: true; the input reads as it did. -/
def fnExactWidestApartSpec : ChangeSpec := { name := "fnExactWidestApart", fn := fun _ => fun
  | [d] => { results := [.lit (.bool true)], args := [d] }
  | _ => none }
def fnExactWidestApartRow : OpenClaim := { program := "ytekopnjleppliaa", sum := "658e45db984b015400a78a05b2d2fcda951fb188d0e672391ce958d3165fdf71", func := "loop.example/ordersthatbranch/laws.FnExactWidestApart", spec := "fnExactWidestApart", unfollowed := true, recurses := true, apart := false }
def FnExactWidestApartSaid : Prop := fnExactWidestApartRow.holds Try.pinned (OpenSpec.ofChange fnExactWidestApartSpec)

/-- ITS FALSE NEIGHBOUR: 'it returns false'. Refute it at one input. -/
def fnExactWidestApartWrong : ChangeSpec := { name := "fnExactWidestApart", fn := fun _ => fun
  | [d] => { results := [.lit (.bool false)], args := [d] }
  | _ => none }
def FnExactWidestApartWrongFalsely : Prop := fnExactWidestApartRow.holds Try.pinned (OpenSpec.ofChange fnExactWidestApartWrong)

/-- 'laws.FnExactFewestChains': WHATEVER THE INPUT: true; the input reads as it did. -/
def fnExactFewestChainsSpec : ChangeSpec := { name := "fnExactFewestChains", fn := fun _ => fun
  | [d] => { results := [.lit (.bool true)], args := [d] }
  | _ => none }
def fnExactFewestChainsRow : OpenClaim := { program := "ytekopnjleppliaa", sum := "658e45db984b015400a78a05b2d2fcda951fb188d0e672391ce958d3165fdf71", func := "loop.example/ordersthatbranch/laws.FnExactFewestChains", spec := "fnExactFewestChains", unfollowed := true, recurses := true, apart := false }
def FnExactFewestChainsSaid : Prop := fnExactFewestChainsRow.holds Try.pinned (OpenSpec.ofChange fnExactFewestChainsSpec)

/-- ITS FALSE NEIGHBOUR: 'it returns false'. Refute it at one input. -/
def fnExactFewestChainsWrong : ChangeSpec := { name := "fnExactFewestChains", fn := fun _ => fun
  | [d] => { results := [.lit (.bool false)], args := [d] }
  | _ => none }
def FnExactFewestChainsWrongFalsely : Prop := fnExactFewestChainsRow.holds Try.pinned (OpenSpec.ofChange fnExactFewestChainsWrong)

/-- 'laws.FnExactChainParts': WHATEVER THE INPUT: true; the input reads as it did. -/
def fnExactChainPartsSpec : ChangeSpec := { name := "fnExactChainParts", fn := fun _ => fun
  | [d] => { results := [.lit (.bool true)], args := [d] }
  | _ => none }
def fnExactChainPartsRow : OpenClaim := { program := "ytekopnjleppliaa", sum := "658e45db984b015400a78a05b2d2fcda951fb188d0e672391ce958d3165fdf71", func := "loop.example/ordersthatbranch/laws.FnExactChainParts", spec := "fnExactChainParts", unfollowed := true, recurses := true, apart := false }
def FnExactChainPartsSaid : Prop := fnExactChainPartsRow.holds Try.pinned (OpenSpec.ofChange fnExactChainPartsSpec)

/-- ITS FALSE NEIGHBOUR: 'it returns false'. Refute it at one input. -/
def fnExactChainPartsWrong : ChangeSpec := { name := "fnExactChainParts", fn := fun _ => fun
  | [d] => { results := [.lit (.bool false)], args := [d] }
  | _ => none }
def FnExactChainPartsWrongFalsely : Prop := fnExactChainPartsRow.holds Try.pinned (OpenSpec.ofChange fnExactChainPartsWrong)

/-- 'laws.FnExactLevelParts': WHATEVER THE INPUT: true; the input reads as it did. -/
def fnExactLevelPartsSpec : ChangeSpec := { name := "fnExactLevelParts", fn := fun _ => fun
  | [d] => { results := [.lit (.bool true)], args := [d] }
  | _ => none }
def fnExactLevelPartsRow : OpenClaim := { program := "ytekopnjleppliaa", sum := "658e45db984b015400a78a05b2d2fcda951fb188d0e672391ce958d3165fdf71", func := "loop.example/ordersthatbranch/laws.FnExactLevelParts", spec := "fnExactLevelParts", unfollowed := true, recurses := true, apart := false }
def FnExactLevelPartsSaid : Prop := fnExactLevelPartsRow.holds Try.pinned (OpenSpec.ofChange fnExactLevelPartsSpec)

/-- ITS FALSE NEIGHBOUR: 'it returns false'. Refute it at one input. -/
def fnExactLevelPartsWrong : ChangeSpec := { name := "fnExactLevelParts", fn := fun _ => fun
  | [d] => { results := [.lit (.bool false)], args := [d] }
  | _ => none }
def FnExactLevelPartsWrongFalsely : Prop := fnExactLevelPartsRow.holds Try.pinned (OpenSpec.ofChange fnExactLevelPartsWrong)

/-- 'laws.FnExactCountChains': WHATEVER THE INPUT: true; the input reads as it did. -/
def fnExactCountChainsSpec : ChangeSpec := { name := "fnExactCountChains", fn := fun _ => fun
  | [d] => { results := [.lit (.bool true)], args := [d] }
  | _ => none }
def fnExactCountChainsRow : OpenClaim := { program := "ytekopnjleppliaa", sum := "658e45db984b015400a78a05b2d2fcda951fb188d0e672391ce958d3165fdf71", func := "loop.example/ordersthatbranch/laws.FnExactCountChains", spec := "fnExactCountChains", unfollowed := true, recurses := true, apart := false }
def FnExactCountChainsSaid : Prop := fnExactCountChainsRow.holds Try.pinned (OpenSpec.ofChange fnExactCountChainsSpec)

/-- ITS FALSE NEIGHBOUR: 'it returns false'. Refute it at one input. -/
def fnExactCountChainsWrong : ChangeSpec := { name := "fnExactCountChains", fn := fun _ => fun
  | [d] => { results := [.lit (.bool false)], args := [d] }
  | _ => none }
def FnExactCountChainsWrongFalsely : Prop := fnExactCountChainsRow.holds Try.pinned (OpenSpec.ofChange fnExactCountChainsWrong)

/-- 'laws.FnOrderOf': WHATEVER THE INPUT: true; the input reads as it did. -/
def fnOrderOfSpec : ChangeSpec := { name := "fnOrderOf", fn := fun _ => fun
  | [d] => { results := [.lit (.bool true)], args := [d] }
  | _ => none }
def fnOrderOfRow : OpenClaim := { program := "ytekopnjleppliaa", sum := "658e45db984b015400a78a05b2d2fcda951fb188d0e672391ce958d3165fdf71", func := "loop.example/ordersthatbranch/laws.FnOrderOf", spec := "fnOrderOf", unfollowed := true, recurses := true, apart := false }
def FnOrderOfSaid : Prop := fnOrderOfRow.holds Try.pinned (OpenSpec.ofChange fnOrderOfSpec)

/-- ITS FALSE NEIGHBOUR: 'it returns false'. Refute it at one input. -/
def fnOrderOfWrong : ChangeSpec := { name := "fnOrderOf", fn := fun _ => fun
  | [d] => { results := [.lit (.bool false)], args := [d] }
  | _ => none }
def FnOrderOfWrongFalsely : Prop := fnOrderOfRow.holds Try.pinned (OpenSpec.ofChange fnOrderOfWrong)

/-- 'laws.FnCoversOf': WHATEVER THE INPUT: true; the input reads as it did. -/
def fnCoversOfSpec : ChangeSpec := { name := "fnCoversOf", fn := fun _ => fun
  | [d] => { results := [.lit (.bool true)], args := [d] }
  | _ => none }
def fnCoversOfRow : OpenClaim := { program := "ytekopnjleppliaa", sum := "658e45db984b015400a78a05b2d2fcda951fb188d0e672391ce958d3165fdf71", func := "loop.example/ordersthatbranch/laws.FnCoversOf", spec := "fnCoversOf", unfollowed := true, recurses := true, apart := false }
def FnCoversOfSaid : Prop := fnCoversOfRow.holds Try.pinned (OpenSpec.ofChange fnCoversOfSpec)

/-- ITS FALSE NEIGHBOUR: 'it returns false'. Refute it at one input. -/
def fnCoversOfWrong : ChangeSpec := { name := "fnCoversOf", fn := fun _ => fun
  | [d] => { results := [.lit (.bool false)], args := [d] }
  | _ => none }
def FnCoversOfWrongFalsely : Prop := fnCoversOfRow.holds Try.pinned (OpenSpec.ofChange fnCoversOfWrong)

/-- 'laws.FnHeightsOf': WHATEVER THE INPUT: true; the input reads as it did. -/
def fnHeightsOfSpec : ChangeSpec := { name := "fnHeightsOf", fn := fun _ => fun
  | [d] => { results := [.lit (.bool true)], args := [d] }
  | _ => none }
def fnHeightsOfRow : OpenClaim := { program := "ytekopnjleppliaa", sum := "658e45db984b015400a78a05b2d2fcda951fb188d0e672391ce958d3165fdf71", func := "loop.example/ordersthatbranch/laws.FnHeightsOf", spec := "fnHeightsOf", unfollowed := true, recurses := true, apart := false }
def FnHeightsOfSaid : Prop := fnHeightsOfRow.holds Try.pinned (OpenSpec.ofChange fnHeightsOfSpec)

/-- ITS FALSE NEIGHBOUR: 'it returns false'. Refute it at one input. -/
def fnHeightsOfWrong : ChangeSpec := { name := "fnHeightsOf", fn := fun _ => fun
  | [d] => { results := [.lit (.bool false)], args := [d] }
  | _ => none }
def FnHeightsOfWrongFalsely : Prop := fnHeightsOfRow.holds Try.pinned (OpenSpec.ofChange fnHeightsOfWrong)

/-- 'laws.FnCountPairs': WHATEVER THE INPUT: true; the input reads as it did. -/
def fnCountPairsSpec : ChangeSpec := { name := "fnCountPairs", fn := fun _ => fun
  | [d] => { results := [.lit (.bool true)], args := [d] }
  | _ => none }
def fnCountPairsRow : OpenClaim := { program := "ytekopnjleppliaa", sum := "658e45db984b015400a78a05b2d2fcda951fb188d0e672391ce958d3165fdf71", func := "loop.example/ordersthatbranch/laws.FnCountPairs", spec := "fnCountPairs", unfollowed := true, recurses := true, apart := false }
def FnCountPairsSaid : Prop := fnCountPairsRow.holds Try.pinned (OpenSpec.ofChange fnCountPairsSpec)

/-- ITS FALSE NEIGHBOUR: 'it returns false'. Refute it at one input. -/
def fnCountPairsWrong : ChangeSpec := { name := "fnCountPairs", fn := fun _ => fun
  | [d] => { results := [.lit (.bool false)], args := [d] }
  | _ => none }
def FnCountPairsWrongFalsely : Prop := fnCountPairsRow.holds Try.pinned (OpenSpec.ofChange fnCountPairsWrong)

/- THE SECOND FORM. 'bulk': how many values and letters a reading holds, each counted each time it is reached (what is shared counts as often as it is met; a slice's spare places count too). A statement '..UptoSaid' is the law's where the arguments, and the package variables that the reading takes, are together of bulk at most 1048576: NARROWER than '..Said'. Prove '..Said' where nothing that the law and all that it calls make is longer than what came in: it says more and counts as full. Else prove '..UptoSaid'. A law counts once. -/
mutual
def uptoBulk {H : Type} : DataW H → Nat
  | .lit (.string bytes) => bytes.length + 1
  | .lit _ => 1
  | .nil => 1
  | .ptr d => uptoBulk d + 1
  | .slice elems spare => uptoBulkAll elems + uptoBulkAll spare + 1
  | .agg parts => uptoBulkAll parts + 1
  | .iface _ d => uptoBulk d + 1
  | .map entries => uptoBulkEntries entries + 1
  | .held _ => 1
def uptoBulkAll {H : Type} : List (DataW H) → Nat
  | [] => 0
  | d :: r => uptoBulk d + uptoBulkAll r
def uptoBulkEntries {H : Type} : List (Lit × DataW H) → Nat
  | [] => 0
  | x :: r => uptoBulkEntry x + uptoBulkEntries r
def uptoBulkEntry {H : Type} : Lit × DataW H → Nat
  | (.string bytes, d) => bytes.length + uptoBulk d + 1
  | (_, d) => uptoBulk d + 1
 end
def uptoSmall : (H : Type) → List (DataW H) → Bool := fun _ ds => decide (uptoBulkAll ds ≤ 1048576)
def OpenSpec.upto (s : _root_.Go.ChangeSpec) : _root_.Go.OpenSpec := { _root_.Go.OpenSpec.ofChange s with cond := some uptoSmall }

/-- 'laws.FnExactIsChain', WHERE WHAT IT READS IS OF BULK AT MOST 1048576: true; the input reads as it did. -/
def fnExactIsChainUptoRow : OpenClaim := { program := "ytekopnjleppliaa", sum := "658e45db984b015400a78a05b2d2fcda951fb188d0e672391ce958d3165fdf71", func := "loop.example/ordersthatbranch/laws.FnExactIsChain", spec := "fnExactIsChain", unfollowed := true, recurses := true, apart := false, narrowed := true }
def FnExactIsChainUptoSaid : Prop := fnExactIsChainUptoRow.holds Try.pinned (OpenSpec.upto fnExactIsChainSpec)

/-- 'laws.FnExactIsApart', WHERE WHAT IT READS IS OF BULK AT MOST 1048576: true; the input reads as it did. -/
def fnExactIsApartUptoRow : OpenClaim := { program := "ytekopnjleppliaa", sum := "658e45db984b015400a78a05b2d2fcda951fb188d0e672391ce958d3165fdf71", func := "loop.example/ordersthatbranch/laws.FnExactIsApart", spec := "fnExactIsApart", unfollowed := true, recurses := true, apart := false, narrowed := true }
def FnExactIsApartUptoSaid : Prop := fnExactIsApartUptoRow.holds Try.pinned (OpenSpec.upto fnExactIsApartSpec)

/-- 'laws.FnExactLongestChain', WHERE WHAT IT READS IS OF BULK AT MOST 1048576: true; the input reads as it did. -/
def fnExactLongestChainUptoRow : OpenClaim := { program := "ytekopnjleppliaa", sum := "658e45db984b015400a78a05b2d2fcda951fb188d0e672391ce958d3165fdf71", func := "loop.example/ordersthatbranch/laws.FnExactLongestChain", spec := "fnExactLongestChain", unfollowed := true, recurses := true, apart := false, narrowed := true }
def FnExactLongestChainUptoSaid : Prop := fnExactLongestChainUptoRow.holds Try.pinned (OpenSpec.upto fnExactLongestChainSpec)

/-- 'laws.FnExactWidestApart', WHERE WHAT IT READS IS OF BULK AT MOST 1048576: true; the input reads as it did. -/
def fnExactWidestApartUptoRow : OpenClaim := { program := "ytekopnjleppliaa", sum := "658e45db984b015400a78a05b2d2fcda951fb188d0e672391ce958d3165fdf71", func := "loop.example/ordersthatbranch/laws.FnExactWidestApart", spec := "fnExactWidestApart", unfollowed := true, recurses := true, apart := false, narrowed := true }
def FnExactWidestApartUptoSaid : Prop := fnExactWidestApartUptoRow.holds Try.pinned (OpenSpec.upto fnExactWidestApartSpec)

/-- 'laws.FnExactFewestChains', WHERE WHAT IT READS IS OF BULK AT MOST 1048576: true; the input reads as it did. -/
def fnExactFewestChainsUptoRow : OpenClaim := { program := "ytekopnjleppliaa", sum := "658e45db984b015400a78a05b2d2fcda951fb188d0e672391ce958d3165fdf71", func := "loop.example/ordersthatbranch/laws.FnExactFewestChains", spec := "fnExactFewestChains", unfollowed := true, recurses := true, apart := false, narrowed := true }
def FnExactFewestChainsUptoSaid : Prop := fnExactFewestChainsUptoRow.holds Try.pinned (OpenSpec.upto fnExactFewestChainsSpec)

/-- 'laws.FnExactChainParts', WHERE WHAT IT READS IS OF BULK AT MOST 1048576: true; the input reads as it did. -/
def fnExactChainPartsUptoRow : OpenClaim := { program := "ytekopnjleppliaa", sum := "658e45db984b015400a78a05b2d2fcda951fb188d0e672391ce958d3165fdf71", func := "loop.example/ordersthatbranch/laws.FnExactChainParts", spec := "fnExactChainParts", unfollowed := true, recurses := true, apart := false, narrowed := true }
def FnExactChainPartsUptoSaid : Prop := fnExactChainPartsUptoRow.holds Try.pinned (OpenSpec.upto fnExactChainPartsSpec)

/-- 'laws.FnExactLevelParts', WHERE WHAT IT READS IS OF BULK AT MOST 1048576: true; the input reads as it did. -/
def fnExactLevelPartsUptoRow : OpenClaim := { program := "ytekopnjleppliaa", sum := "658e45db984b015400a78a05b2d2fcda951fb188d0e672391ce958d3165fdf71", func := "loop.example/ordersthatbranch/laws.FnExactLevelParts", spec := "fnExactLevelParts", unfollowed := true, recurses := true, apart := false, narrowed := true }
def FnExactLevelPartsUptoSaid : Prop := fnExactLevelPartsUptoRow.holds Try.pinned (OpenSpec.upto fnExactLevelPartsSpec)

/-- 'laws.FnExactCountChains', WHERE WHAT IT READS IS OF BULK AT MOST 1048576: true; the input reads as it did. -/
def fnExactCountChainsUptoRow : OpenClaim := { program := "ytekopnjleppliaa", sum := "658e45db984b015400a78a05b2d2fcda951fb188d0e672391ce958d3165fdf71", func := "loop.example/ordersthatbranch/laws.FnExactCountChains", spec := "fnExactCountChains", unfollowed := true, recurses := true, apart := false, narrowed := true }
def FnExactCountChainsUptoSaid : Prop := fnExactCountChainsUptoRow.holds Try.pinned (OpenSpec.upto fnExactCountChainsSpec)

/-- 'laws.FnOrderOf', WHERE WHAT IT READS IS OF BULK AT MOST 1048576: true; the input reads as it did. -/
def fnOrderOfUptoRow : OpenClaim := { program := "ytekopnjleppliaa", sum := "658e45db984b015400a78a05b2d2fcda951fb188d0e672391ce958d3165fdf71", func := "loop.example/ordersthatbranch/laws.FnOrderOf", spec := "fnOrderOf", unfollowed := true, recurses := true, apart := false, narrowed := true }
def FnOrderOfUptoSaid : Prop := fnOrderOfUptoRow.holds Try.pinned (OpenSpec.upto fnOrderOfSpec)

/-- 'laws.FnCoversOf', WHERE WHAT IT READS IS OF BULK AT MOST 1048576: true; the input reads as it did. -/
def fnCoversOfUptoRow : OpenClaim := { program := "ytekopnjleppliaa", sum := "658e45db984b015400a78a05b2d2fcda951fb188d0e672391ce958d3165fdf71", func := "loop.example/ordersthatbranch/laws.FnCoversOf", spec := "fnCoversOf", unfollowed := true, recurses := true, apart := false, narrowed := true }
def FnCoversOfUptoSaid : Prop := fnCoversOfUptoRow.holds Try.pinned (OpenSpec.upto fnCoversOfSpec)

/-- 'laws.FnHeightsOf', WHERE WHAT IT READS IS OF BULK AT MOST 1048576: true; the input reads as it did. -/
def fnHeightsOfUptoRow : OpenClaim := { program := "ytekopnjleppliaa", sum := "658e45db984b015400a78a05b2d2fcda951fb188d0e672391ce958d3165fdf71", func := "loop.example/ordersthatbranch/laws.FnHeightsOf", spec := "fnHeightsOf", unfollowed := true, recurses := true, apart := false, narrowed := true }
def FnHeightsOfUptoSaid : Prop := fnHeightsOfUptoRow.holds Try.pinned (OpenSpec.upto fnHeightsOfSpec)

/-- 'laws.FnCountPairs', WHERE WHAT IT READS IS OF BULK AT MOST 1048576: true; the input reads as it did. -/
def fnCountPairsUptoRow : OpenClaim := { program := "ytekopnjleppliaa", sum := "658e45db984b015400a78a05b2d2fcda951fb188d0e672391ce958d3165fdf71", func := "loop.example/ordersthatbranch/laws.FnCountPairs", spec := "fnCountPairs", unfollowed := true, recurses := true, apart := false, narrowed := true }
def FnCountPairsUptoSaid : Prop := fnCountPairsUptoRow.holds Try.pinned (OpenSpec.upto fnCountPairsSpec)

end Rows
end Go.Proofs.Ytekopnjleppliaa
