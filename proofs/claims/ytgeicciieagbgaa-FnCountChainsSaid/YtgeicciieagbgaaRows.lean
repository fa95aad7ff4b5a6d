/-
  No cell of these rows narrows 'for every input' (looked for: loops, veiled, ifaces, maps, wideKeys, modest, calm, conditions, laid).
  DERIVED. THE GIVEN ROWS OF THIS SEAT. 12 by the template 'for every input the law returns true; each argument reads behind the call as it read before'; 0 by the template 'total and deterministic' (their statements: YtgeicciieagbgaaTotals.lean).
  GIVEN WITH THE SEED: the statements are not yours to turn. If you find one false, say at which input.
  Laid BY PROGRAM, IN A SANDBOX (cutbox-rows.mjs): the forced cells as the released guide's own fill.sh prints them over the translation 767750cccd4d21d7… (all of the seat's roots in one cut). By AI agents, Wed Nov 11 2026. No macro, syntax, notation, axiom, sorry.
-/
import Derived.Test.YtgeicciieagbgaaChecked
import GoSem.Claim
import GoSem.ClaimJoined
import GoSem.ClaimMapViews
import Derived.JoinedTies
import Derived.KernelRfl
namespace Go.Proofs.Ytgeicciieagbgaa
/- THE CELL 'sum', in the pinned program and in every row, IS THE sha256 OF THE DUMP (.gsa) THAT YtgeicciieagbgaaProg.lean LOADS. Nothing in Lean hashes anything: it is a label: what it is worth is what the hold of that sum in a sandbox is worth. -/
noncomputable def Try.pinned : Pinned := { name := "ytgeicciieagbgaa", sum := "767750cccd4d21d770fc69027a0eb7ddc098b79925f0028191903a91233be285", checked := Try.checked }
namespace Rows
def none {H : Type} : Left H := { results := [], args := [] }

/-- 'laws.FnDualOf': WHATEVER THE INPUT: true; the input reads as it did. -/
def fnDualOfSpec : ChangeSpec := { name := "fnDualOf", fn := fun _ => fun
  | [d] => { results := [.lit (.bool true)], args := [d] }
  | _ => none }
def fnDualOfRow : OpenClaim := { program := "ytgeicciieagbgaa", sum := "767750cccd4d21d770fc69027a0eb7ddc098b79925f0028191903a91233be285", func := "loop.example/ordersthatbranch/laws.FnDualOf", spec := "fnDualOf", unfollowed := true, recurses := true, apart := false }
def FnDualOfSaid : Prop := fnDualOfRow.holds Try.pinned (OpenSpec.ofChange fnDualOfSpec)

/-- ITS FALSE NEIGHBOUR: 'it returns false'. Refute it at one input. -/
def fnDualOfWrong : ChangeSpec := { name := "fnDualOf", fn := fun _ => fun
  | [d] => { results := [.lit (.bool false)], args := [d] }
  | _ => none }
def FnDualOfWrongFalsely : Prop := fnDualOfRow.holds Try.pinned (OpenSpec.ofChange fnDualOfWrong)

/-- 'laws.FnCoversOf': WHATEVER THE INPUT: true; the input reads as it did. -/
def fnCoversOfSpec : ChangeSpec := { name := "fnCoversOf", fn := fun _ => fun
  | [d] => { results := [.lit (.bool true)], args := [d] }
  | _ => none }
def fnCoversOfRow : OpenClaim := { program := "ytgeicciieagbgaa", sum := "767750cccd4d21d770fc69027a0eb7ddc098b79925f0028191903a91233be285", func := "loop.example/ordersthatbranch/laws.FnCoversOf", spec := "fnCoversOf", unfollowed := true, recurses := true, apart := false }
def FnCoversOfSaid : Prop := fnCoversOfRow.holds Try.pinned (OpenSpec.ofChange fnCoversOfSpec)

/-- ITS FALSE NEIGHBOUR: 'it returns false'. Refute it at one input. -/
def fnCoversOfWrong : ChangeSpec := { name := "fnCoversOf", fn := fun _ => fun
  | [d] => { results := [.lit (.bool false)], args := [d] }
  | _ => none }
def FnCoversOfWrongFalsely : Prop := fnCoversOfRow.holds Try.pinned (OpenSpec.ofChange fnCoversOfWrong)

/-- 'laws.FnHeightsOf': WHATEVER THE INPUT: true; the input reads as it did. -/
def fnHeightsOfSpec : ChangeSpec := { name := "fnHeightsOf", fn := fun _ => fun
  | [d] => { results := [.lit (.bool true)], args := [d] }
  | _ => none }
def fnHeightsOfRow : OpenClaim := { program := "ytgeicciieagbgaa", sum := "767750cccd4d21d770fc69027a0eb7ddc098b79925f0028191903a91233be285", func := "loop.example/ordersthatbranch/laws.FnHeightsOf", spec := "fnHeightsOf", unfollowed := true, recurses := true, apart := false }
def FnHeightsOfSaid : Prop := fnHeightsOfRow.holds Try.pinned (OpenSpec.ofChange fnHeightsOfSpec)

/-- ITS FALSE NEIGHBOUR: 'it returns false'. Refute it at one input. -/
def fnHeightsOfWrong : ChangeSpec := { name := "fnHeightsOf", fn := fun _ => fun
  | [d] => { results := [.lit (.bool false)], args := [d] }
  | _ => none }
def FnHeightsOfWrongFalsely : Prop := fnHeightsOfRow.holds Try.pinned (OpenSpec.ofChange fnHeightsOfWrong)

/-- 'laws.FnCountPairs': WHATEVER THE INPUT: true; the input reads as it did. -/
def fnCountPairsSpec : ChangeSpec := { name := "fnCountPairs", fn := fun _ => fun
  | [d] => { results := [.lit (.bool true)], args := [d] }
  | _ => none }
def fnCountPairsRow : OpenClaim := { program := "ytgeicciieagbgaa", sum := "767750cccd4d21d770fc69027a0eb7ddc098b79925f0028191903a91233be285", func := "loop.example/ordersthatbranch/laws.FnCountPairs", spec := "fnCountPairs", unfollowed := true, recurses := true, apart := false }
def FnCountPairsSaid : Prop := fnCountPairsRow.holds Try.pinned (OpenSpec.ofChange fnCountPairsSpec)

/-- ITS FALSE NEIGHBOUR: 'it returns false'. Refute it at one input. -/
def fnCountPairsWrong : ChangeSpec := { name := "fnCountPairs", fn := fun _ => fun
  | [d] => { results := [.lit (.bool false)], args := [d] }
  | _ => none }
def FnCountPairsWrongFalsely : Prop := fnCountPairsRow.holds Try.pinned (OpenSpec.ofChange fnCountPairsWrong)

/-- 'laws.FnIsChain': WHATEVER THE INPUT: true; the input reads as it did. -/
def fnIsChainSpec : ChangeSpec := { name := "fnIsChain", fn := fun _ => fun
  | [d] => { results := [.lit (.bool true)], args := [d] }
  | _ => none }
def fnIsChainRow : OpenClaim := { program := "ytgeicciieagbgaa", sum := "767750cccd4d21d770fc69027a0eb7ddc098b79925f0028191903a91233be285", func := "loop.example/ordersthatbranch/laws.FnIsChain", spec := "fnIsChain", unfollowed := true, recurses := true, apart := false }
def FnIsChainSaid : Prop := fnIsChainRow.holds Try.pinned (OpenSpec.ofChange fnIsChainSpec)

/-- ITS FALSE NEIGHBOUR: 'it returns false'. Refute it at one input. -/
def fnIsChainWrong : ChangeSpec := { name := "fnIsChain", fn := fun _ => fun
  | [d] => { results := [.lit (.bool false)], args := [d] }
  | _ => none }
def FnIsChainWrongFalsely : Prop := fnIsChainRow.holds Try.pinned (OpenSpec.ofChange fnIsChainWrong)

/-- 'laws.FnIsApart': WHATEVER THE INPUT: true; the input reads as it did. -/
def fnIsApartSpec : ChangeSpec := { name := "fnIsApart", fn := fun _ => fun
  | [d] => { results := [.lit (.bool true)], args := [d] }
  | _ => none }
def fnIsApartRow : OpenClaim := { program := "ytgeicciieagbgaa", sum := "767750cccd4d21d770fc69027a0eb7ddc098b79925f0028191903a91233be285", func := "loop.example/ordersthatbranch/laws.FnIsApart", spec := "fnIsApart", unfollowed := true, recurses := true, apart := false }
def FnIsApartSaid : Prop := fnIsApartRow.holds Try.pinned (OpenSpec.ofChange fnIsApartSpec)

/-- ITS FALSE NEIGHBOUR: 'it returns false'. Refute it at one input. -/
def fnIsApartWrong : ChangeSpec := { name := "fnIsApart", fn := fun _ => fun
  | [d] => { results := [.lit (.bool false)], args := [d] }
  | _ => none }
def FnIsApartWrongFalsely : Prop := fnIsApartRow.holds Try.pinned (OpenSpec.ofChange fnIsApartWrong)

/-- 'laws.FnLongestChain': WHATEVER THE INPUT: true; the input reads as it did. -/
def fnLongestChainSpec : ChangeSpec := { name := "fnLongestChain", fn := fun _ => fun
  | [d] => { results := [.lit (.bool true)], args := [d] }
  | _ => none }
def fnLongestChainRow : OpenClaim := { program := "ytgeicciieagbgaa", sum := "767750cccd4d21d770fc69027a0eb7ddc098b79925f0028191903a91233be285", func := "loop.example/ordersthatbranch/laws.FnLongestChain", spec := "fnLongestChain", unfollowed := true, recurses := true, apart := false }
def FnLongestChainSaid : Prop := fnLongestChainRow.holds Try.pinned (OpenSpec.ofChange fnLongestChainSpec)

/-- ITS FALSE NEIGHBOUR: 'it returns false'. Refute it at one input. -/
def fnLongestChainWrong : ChangeSpec := { name := "fnLongestChain", fn := fun _ => fun
  | [d] => { results := [.lit (.bool false)], args := [d] }
  | _ => none }
def FnLongestChainWrongFalsely : Prop := fnLongestChainRow.holds Try.pinned (OpenSpec.ofChange fnLongestChainWrong)

/-- 'laws.FnLevelParts': WHATEVER THE INPUT: true; the input reads as it did. -/
def fnLevelPartsSpec : ChangeSpec := { name := "fnLevelParts", fn := fun _ => fun
  | [d] => { results := [.lit (.bool true)], args := [d] }
  | _ => none }
def fnLevelPartsRow : OpenClaim := { program := "ytgeicciieagbgaa", sum := "767750cccd4d21d770fc69027a0eb7ddc098b79925f0028191903a91233be285", func := "loop.example/ordersthatbranch/laws.FnLevelParts", spec := "fnLevelParts", unfollowed := true, recurses := true, apart := false }
def FnLevelPartsSaid : Prop := fnLevelPartsRow.holds Try.pinned (OpenSpec.ofChange fnLevelPartsSpec)

/-- ITS FALSE NEIGHBOUR: 'it returns false'. Refute it at one input. -/
def fnLevelPartsWrong : ChangeSpec := { name := "fnLevelParts", fn := fun _ => fun
  | [d] => { results := [.lit (.bool false)], args := [d] }
  | _ => none }
def FnLevelPartsWrongFalsely : Prop := fnLevelPartsRow.holds Try.pinned (OpenSpec.ofChange fnLevelPartsWrong)

/-- 'laws.FnCountChains': WHATEVER THE INPUT: true; the input reads as it did. -/
def fnCountChainsSpec : ChangeSpec := { name := "fnCountChains", fn := fun _ => fun
  | [d] => { results := [.lit (.bool true)], args := [d] }
  | _ => none }
def fnCountChainsRow : OpenClaim := { program := "ytgeicciieagbgaa", sum := "767750cccd4d21d770fc69027a0eb7ddc098b79925f0028191903a91233be285", func := "loop.example/ordersthatbranch/laws.FnCountChains", spec := "fnCountChains", unfollowed := true, recurses := true, apart := false }
def FnCountChainsSaid : Prop := fnCountChainsRow.holds Try.pinned (OpenSpec.ofChange fnCountChainsSpec)

/-- ITS FALSE NEIGHBOUR: 'it returns false'. Refute it at one input. -/
def fnCountChainsWrong : ChangeSpec := { name := "fnCountChains", fn := fun _ => fun
  | [d] => { results := [.lit (.bool false)], args := [d] }
  | _ => none }
def FnCountChainsWrongFalsely : Prop := fnCountChainsRow.holds Try.pinned (OpenSpec.ofChange fnCountChainsWrong)

/-- 'laws.FnExactOrderOf': WHATEVER THE INPUT: true; the input reads as it did. -/
def fnExactOrderOfSpec : ChangeSpec := { name := "fnExactOrderOf", fn := fun _ => fun
  | [d1, d2] => { results := [.lit (.bool true)], args := [d1, d2] }
  | _ => none }
def fnExactOrderOfRow : OpenClaim := { program := "ytgeicciieagbgaa", sum := "767750cccd4d21d770fc69027a0eb7ddc098b79925f0028191903a91233be285", func := "loop.example/ordersthatbranch/laws.FnExactOrderOf", spec := "fnExactOrderOf", unfollowed := true, recurses := true, apart := false }
def FnExactOrderOfSaid : Prop := fnExactOrderOfRow.holds Try.pinned (OpenSpec.ofChange fnExactOrderOfSpec)

/-- ITS FALSE NEIGHBOUR: 'it returns false'. Refute it at one input. -/
def fnExactOrderOfWrong : ChangeSpec := { name := "fnExactOrderOf", fn := fun _ => fun
  | [d1, d2] => { results := [.lit (.bool false)], args := [d1, d2] }
  | _ => none }
def FnExactOrderOfWrongFalsely : Prop := fnExactOrderOfRow.holds Try.pinned (OpenSpec.ofChange fnExactOrderOfWrong)

/-- 'laws.FnExactDualOf': WHATEVER THE INPUT: true; the input reads as it did. -/
def fnExactDualOfSpec : ChangeSpec := { name := "fnExactDualOf", fn := fun _ => fun
  | [d] => { results := [.lit (.bool true)], args := [d] }
  | _ => none }
def fnExactDualOfRow : OpenClaim := { program := "ytgeicciieagbgaa", sum := "767750cccd4d21d770fc69027a0eb7ddc098b79925f0028191903a91233be285", func := "loop.example/ordersthatbranch/laws.FnExactDualOf", spec := "fnExactDualOf", unfollowed := true, recurses := true, apart := false }
def FnExactDualOfSaid : Prop := fnExactDualOfRow.holds Try.pinned (OpenSpec.ofChange fnExactDualOfSpec)

/-- ITS FALSE NEIGHBOUR: 'it returns false'. Refute it at one input. -/
def fnExactDualOfWrong : ChangeSpec := { name := "fnExactDualOf", fn := fun _ => fun
  | [d] => { results := [.lit (.bool false)], args := [d] }
  | _ => none }
def FnExactDualOfWrongFalsely : Prop := fnExactDualOfRow.holds Try.pinned (OpenSpec.ofChange fnExactDualOfWrong)

/-- 'laws.FnExactForestLines': WHATEVER THE INPUT: true; the input reads as it did. -/
def fnExactForestLinesSpec : ChangeSpec := { name := "fnExactForestLines", fn := fun _ => fun
  | [d] => { results := [.lit (.bool true)], args := [d] }
  | _ => none }
def fnExactForestLinesRow : OpenClaim := { program := "ytgeicciieagbgaa", sum := "767750cccd4d21d770fc69027a0eb7ddc098b79925f0028191903a91233be285", func := "loop.example/ordersthatbranch/laws.FnExactForestLines", spec := "fnExactForestLines", unfollowed := true, recurses := true, apart := false }
def FnExactForestLinesSaid : Prop := fnExactForestLinesRow.holds Try.pinned (OpenSpec.ofChange fnExactForestLinesSpec)

/-- ITS FALSE NEIGHBOUR: 'it returns false'. Refute it at one input. -/
def fnExactForestLinesWrong : ChangeSpec := { name := "fnExactForestLines", fn := fun _ => fun
  | [d] => { results := [.lit (.bool false)], args := [d] }
  | _ => none }
def FnExactForestLinesWrongFalsely : Prop := fnExactForestLinesRow.holds Try.pinned (OpenSpec.ofChange fnExactForestLinesWrong)

/- THE SECOND FORM. 'bulk': how many values and letters a reading holds, each counted each time it is reached (what is shared counts as often as it is met; a slice's spare places count too). A statement '..UptoSaid' is the law's where the arguments, and the package variables that the reading takes, are together of bulk at most 1048576: NARROWER than '..Said'. Prove '..Said' where nothing that the law and all that it calls make is longer than what came in: it says more and counts as full. Else prove '..UptoSaid'. A law counts once. -/
mutual
def uptoBulk {H : Type} : DataW H → Nat
  | .lit (.string bytes) => bytes.length + 1
  | .lit _ => 1
  | .nil => 1
  | .ptr d => uptoBulk d + 1
  | .slice elems spare => uptoBulkAll elems + uptoBulkAll spare + 1
  | .agg parts => uptoBulkAll parts + 1
  | .iface _ d => uptoBulk d + 1
  | .map entries => uptoBulkEntries entries + 1
  | .held _ => 1
def uptoBulkAll {H : Type} : List (DataW H) → Nat
  | [] => 0
  | d :: r => uptoBulk d + uptoBulkAll r
def uptoBulkEntries {H : Type} : List (Lit × DataW H) → Nat
  | [] => 0
  | x :: r => uptoBulkEntry x + uptoBulkEntries r
def uptoBulkEntry {H : Type} : Lit × DataW H → Nat
  | (.string bytes, d) => bytes.length + uptoBulk d + 1
  | (_, d) => uptoBulk d + 1
 end
def uptoSmall : (H : Type) → List (DataW H) → Bool := fun _ ds => decide (uptoBulkAll ds ≤ 1048576)
def OpenSpec.upto (s : _root_.Go.ChangeSpec) : _root_.Go.OpenSpec := { _root_.Go.OpenSpec.ofChange s with cond := some uptoSmall }

/-- 'laws.FnDualOf', WHERE WHAT IT READS IS OF BULK AT MOST 1048576: true; the input reads as it did. -/
def fnDualOfUptoRow : OpenClaim := { program := "ytgeicciieagbgaa", sum := "767750cccd4d21d770fc69027a0eb7ddc098b79925f0028191903a91233be285", func := "loop.example/ordersthatbranch/laws.FnDualOf", spec := "fnDualOf", unfollowed := true, recurses := true, apart := false, narrowed := true }
def FnDualOfUptoSaid : Prop := fnDualOfUptoRow.holds Try.pinned (OpenSpec.upto fnDualOfSpec)

/-- 'laws.FnCoversOf', WHERE WHAT IT READS IS OF BULK AT MOST 1048576: true; the input reads as it did. -/
def fnCoversOfUptoRow : OpenClaim := { program := "ytgeicciieagbgaa", sum := "767750cccd4d21d770fc69027a0eb7ddc098b79925f0028191903a91233be285", func := "loop.example/ordersthatbranch/laws.FnCoversOf", spec := "fnCoversOf", unfollowed := true, recurses := true, apart := false, narrowed := true }
def FnCoversOfUptoSaid : Prop := fnCoversOfUptoRow.holds Try.pinned (OpenSpec.upto fnCoversOfSpec)

/-- 'laws.FnHeightsOf', WHERE WHAT IT READS IS OF BULK AT MOST 1048576: true; the input reads as it did. -/
def fnHeightsOfUptoRow : OpenClaim := { program := "ytgeicciieagbgaa", sum := "767750cccd4d21d770fc69027a0eb7ddc098b79925f0028191903a91233be285", func := "loop.example/ordersthatbranch/laws.FnHeightsOf", spec := "fnHeightsOf", unfollowed := true, recurses := true, apart := false, narrowed := true }
def FnHeightsOfUptoSaid : Prop := fnHeightsOfUptoRow.holds Try.pinned (OpenSpec.upto fnHeightsOfSpec)

/-- 'laws.FnCountPairs', WHERE WHAT IT READS IS OF BULK AT MOST 1048576: true; the input reads as it did. -/
def fnCountPairsUptoRow : OpenClaim := { program := "ytgeicciieagbgaa", sum := "767750cccd4d21d770fc69027a0eb7ddc098b79925f0028191903a91233be285", func := "loop.example/ordersthatbranch/laws.FnCountPairs", spec := "fnCountPairs", unfollowed := true, recurses := true, apart := false, narrowed := true }
def FnCountPairsUptoSaid : Prop := fnCountPairsUptoRow.holds Try.pinned (OpenSpec.upto fnCountPairsSpec)

/-- 'laws.FnIsChain', WHERE WHAT IT READS IS OF BULK AT MOST 1048576: true; the input reads as it did. -/
def fnIsChainUptoRow : OpenClaim := { program := "ytgeicciieagbgaa", sum := "767750cccd4d21d770fc69027a0eb7ddc098b79925f0028191903a91233be285", func := "loop.example/ordersthatbranch/laws.FnIsChain", spec := "fnIsChain", unfollowed := true, recurses := true, apart := false, narrowed := true }
def FnIsChainUptoSaid : Prop := fnIsChainUptoRow.holds Try.pinned (OpenSpec.upto fnIsChainSpec)

/-- 'laws.FnIsApart', WHERE WHAT IT READS IS OF BULK AT MOST 1048576: true; the input reads as it did. -/
def fnIsApartUptoRow : OpenClaim := { program := "ytgeicciieagbgaa", sum := "767750cccd4d21d770fc69027a0eb7ddc098b79925f0028191903a91233be285", func := "loop.example/ordersthatbranch/laws.FnIsApart", spec := "fnIsApart", unfollowed := true, recurses := true, apart := false, narrowed := true }
def FnIsApartUptoSaid : Prop := fnIsApartUptoRow.holds Try.pinned (OpenSpec.upto fnIsApartSpec)

/-- 'laws.FnLongestChain', WHERE WHAT IT READS IS OF BULK AT MOST 1048576: true; the input reads as it did. -/
def fnLongestChainUptoRow : OpenClaim := { program := "ytgeicciieagbgaa", sum := "767750cccd4d21d770fc69027a0eb7ddc098b79925f0028191903a91233be285", func := "loop.example/ordersthatbranch/laws.FnLongestChain", spec := "fnLongestChain", unfollowed := true, recurses := true, apart := false, narrowed := true }
def FnLongestChainUptoSaid : Prop := fnLongestChainUptoRow.holds Try.pinned (OpenSpec.upto fnLongestChainSpec)

/-- 'laws.FnLevelParts', WHERE WHAT IT READS IS OF BULK AT MOST 1048576: true; the input reads as it did. -/
def fnLevelPartsUptoRow : OpenClaim := { program := "ytgeicciieagbgaa", sum := "767750cccd4d21d770fc69027a0eb7ddc098b79925f0028191903a91233be285", func := "loop.example/ordersthatbranch/laws.FnLevelParts", spec := "fnLevelParts", unfollowed := true, recurses := true, apart := false, narrowed := true }
def FnLevelPartsUptoSaid : Prop := fnLevelPartsUptoRow.holds Try.pinned (OpenSpec.upto fnLevelPartsSpec)

/-- 'laws.FnCountChains', WHERE WHAT IT READS IS OF BULK AT MOST 1048576: true; the input reads as it did. -/
def fnCountChainsUptoRow : OpenClaim := { program := "ytgeicciieagbgaa", sum := "767750cccd4d21d770fc69027a0eb7ddc098b79925f0028191903a91233be285", func := "loop.example/ordersthatbranch/laws.FnCountChains", spec := "fnCountChains", unfollowed := true, recurses := true, apart := false, narrowed := true }
def FnCountChainsUptoSaid : Prop := fnCountChainsUptoRow.holds Try.pinned (OpenSpec.upto fnCountChainsSpec)

/-- 'laws.FnExactOrderOf', WHERE WHAT IT READS IS OF BULK AT MOST 1048576: true; the input reads as it did. -/
def fnExactOrderOfUptoRow : OpenClaim := { program := "ytgeicciieagbgaa", sum := "767750cccd4d21d770fc69027a0eb7ddc098b79925f0028191903a91233be285", func := "loop.example/ordersthatbranch/laws.FnExactOrderOf", spec := "fnExactOrderOf", unfollowed := true, recurses := true, apart := false, narrowed := true }
def FnExactOrderOfUptoSaid : Prop := fnExactOrderOfUptoRow.holds Try.pinned (OpenSpec.upto fnExactOrderOfSpec)

/-- 'laws.FnExactDualOf', WHERE WHAT IT READS IS OF BULK AT MOST 1048576: true; the input reads as it did. -/
def fnExactDualOfUptoRow : OpenClaim := { program := "ytgeicciieagbgaa", sum := "767750cccd4d21d770fc69027a0eb7ddc098b79925f0028191903a91233be285", func := "loop.example/ordersthatbranch/laws.FnExactDualOf", spec := "fnExactDualOf", unfollowed := true, recurses := true, apart := false, narrowed := true }
def FnExactDualOfUptoSaid : Prop := fnExactDualOfUptoRow.holds Try.pinned (OpenSpec.upto fnExactDualOfSpec)

/-- 'laws.FnExactForestLines', WHERE WHAT IT READS IS OF BULK AT MOST 1048576: true; the input reads as it did. -/
def fnExactForestLinesUptoRow : OpenClaim := { program := "ytgeicciieagbgaa", sum := "767750cccd4d21d770fc69027a0eb7ddc098b79925f0028191903a91233be285", func := "loop.example/ordersthatbranch/laws.FnExactForestLines", spec := "fnExactForestLines", unfollowed := true, recurses := true, apart := false, narrowed := true }
def FnExactForestLinesUptoSaid : Prop := fnExactForestLinesUptoRow.holds Try.pinned (OpenSpec.upto fnExactForestLinesSpec)

end Rows
end Go.Proofs.Ytgeicciieagbgaa
