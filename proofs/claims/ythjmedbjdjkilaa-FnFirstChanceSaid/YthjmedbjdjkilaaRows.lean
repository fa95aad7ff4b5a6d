/-
  No cell of these rows narrows 'for every input' (looked for: loops, veiled, ifaces, maps, wideKeys, modest, calm, conditions, laid).
  DERIVED. THE GIVEN ROWS OF THIS SEAT. 12 by the template 'for every input the law returns true; each argument reads behind the call as it read before'; 0 by the template 'total and deterministic' (their statements: YthjmedbjdjkilaaTotals.lean).
  GIVEN WITH THE SEED: the statements are not yours to turn. If you find one false, say at which input.
  Laid BY PROGRAM, IN A SANDBOX (cutbox-rows.mjs): the forced cells as the released guide's own fill.sh prints them over the translation 6fabfb840b423a2e… (all of the seat's roots in one cut). By AI agents, Wed Nov 11 2026. No macro, syntax, notation, axiom, sorry.
-/
import Derived.Test.YthjmedbjdjkilaaChecked
import GoSem.Claim
import GoSem.ClaimJoined
import GoSem.ClaimMapViews
import Derived.JoinedTies
import Derived.KernelRfl
namespace Go.Proofs.Ythjmedbjdjkilaa
/- THE CELL 'sum', in the pinned program and in every row, IS THE sha256 OF THE DUMP (.gsa) THAT YthjmedbjdjkilaaProg.lean LOADS. Nothing in Lean hashes anything: it is a label: what it is worth is what the hold of that sum in a sandbox is worth. -/
noncomputable def Try.pinned : Pinned := { name := "ythjmedbjdjkilaa", sum := "6fabfb840b423a2e08ec216e293c644067bf6a00c925cd6907deaca37abd45de", checked := Try.checked }
namespace Rows
def none {H : Type} : Left H := { results := [], args := [] }

/-- 'laws.FnCountLines': WHATEVER THE INPUT: true; the input reads as it did. -/
def fnCountLinesSpec : ChangeSpec := { name := "fnCountLines", fn := fun _ => fun
  | [d] => { results := [.lit (.bool true)], args := [d] }
  | _ => none }
def fnCountLinesRow : OpenClaim := { program := "ythjmedbjdjkilaa", sum := "6fabfb840b423a2e08ec216e293c644067bf6a00c925cd6907deaca37abd45de", func := "loop.example/ordersthatbranch/laws.FnCountLines", spec := "fnCountLines", unfollowed := true, recurses := true, apart := false }
def FnCountLinesSaid : Prop := fnCountLinesRow.holds Try.pinned (OpenSpec.ofChange fnCountLinesSpec)

/-- ITS FALSE NEIGHBOUR: 'it returns false'. Refute it at one input. -/
def fnCountLinesWrong : ChangeSpec := { name := "fnCountLines", fn := fun _ => fun
  | [d] => { results := [.lit (.bool false)], args := [d] }
  | _ => none }
def FnCountLinesWrongFalsely : Prop := fnCountLinesRow.holds Try.pinned (OpenSpec.ofChange fnCountLinesWrong)

/-- 'laws.FnIsLine': WHATEVER THE INPUT: true; the input reads as it did. -/
def fnIsLineSpec : ChangeSpec := { name := "fnIsLine", fn := fun _ => fun
  | [d] => { results := [.lit (.bool true)], args := [d] }
  | _ => none }
def fnIsLineRow : OpenClaim := { program := "ythjmedbjdjkilaa", sum := "6fabfb840b423a2e08ec216e293c644067bf6a00c925cd6907deaca37abd45de", func := "loop.example/ordersthatbranch/laws.FnIsLine", spec := "fnIsLine", unfollowed := true, recurses := true, apart := false }
def FnIsLineSaid : Prop := fnIsLineRow.holds Try.pinned (OpenSpec.ofChange fnIsLineSpec)

/-- ITS FALSE NEIGHBOUR: 'it returns false'. Refute it at one input. -/
def fnIsLineWrong : ChangeSpec := { name := "fnIsLine", fn := fun _ => fun
  | [d] => { results := [.lit (.bool false)], args := [d] }
  | _ => none }
def FnIsLineWrongFalsely : Prop := fnIsLineRow.holds Try.pinned (OpenSpec.ofChange fnIsLineWrong)

/-- 'laws.FnLineRank': WHATEVER THE INPUT: true; the input reads as it did. -/
def fnLineRankSpec : ChangeSpec := { name := "fnLineRank", fn := fun _ => fun
  | [d] => { results := [.lit (.bool true)], args := [d] }
  | _ => none }
def fnLineRankRow : OpenClaim := { program := "ythjmedbjdjkilaa", sum := "6fabfb840b423a2e08ec216e293c644067bf6a00c925cd6907deaca37abd45de", func := "loop.example/ordersthatbranch/laws.FnLineRank", spec := "fnLineRank", unfollowed := true, recurses := true, apart := false }
def FnLineRankSaid : Prop := fnLineRankRow.holds Try.pinned (OpenSpec.ofChange fnLineRankSpec)

/-- ITS FALSE NEIGHBOUR: 'it returns false'. Refute it at one input. -/
def fnLineRankWrong : ChangeSpec := { name := "fnLineRank", fn := fun _ => fun
  | [d] => { results := [.lit (.bool false)], args := [d] }
  | _ => none }
def FnLineRankWrongFalsely : Prop := fnLineRankRow.holds Try.pinned (OpenSpec.ofChange fnLineRankWrong)

/-- 'laws.FnLineAt': WHATEVER THE INPUT: true; the input reads as it did. -/
def fnLineAtSpec : ChangeSpec := { name := "fnLineAt", fn := fun _ => fun
  | [d] => { results := [.lit (.bool true)], args := [d] }
  | _ => none }
def fnLineAtRow : OpenClaim := { program := "ythjmedbjdjkilaa", sum := "6fabfb840b423a2e08ec216e293c644067bf6a00c925cd6907deaca37abd45de", func := "loop.example/ordersthatbranch/laws.FnLineAt", spec := "fnLineAt", unfollowed := true, recurses := true, apart := false }
def FnLineAtSaid : Prop := fnLineAtRow.holds Try.pinned (OpenSpec.ofChange fnLineAtSpec)

/-- ITS FALSE NEIGHBOUR: 'it returns false'. Refute it at one input. -/
def fnLineAtWrong : ChangeSpec := { name := "fnLineAt", fn := fun _ => fun
  | [d] => { results := [.lit (.bool false)], args := [d] }
  | _ => none }
def FnLineAtWrongFalsely : Prop := fnLineAtRow.holds Try.pinned (OpenSpec.ofChange fnLineAtWrong)

/-- 'laws.FnForestLines': WHATEVER THE INPUT: true; the input reads as it did. -/
def fnForestLinesSpec : ChangeSpec := { name := "fnForestLines", fn := fun _ => fun
  | [d] => { results := [.lit (.bool true)], args := [d] }
  | _ => none }
def fnForestLinesRow : OpenClaim := { program := "ythjmedbjdjkilaa", sum := "6fabfb840b423a2e08ec216e293c644067bf6a00c925cd6907deaca37abd45de", func := "loop.example/ordersthatbranch/laws.FnForestLines", spec := "fnForestLines", unfollowed := true, recurses := true, apart := false }
def FnForestLinesSaid : Prop := fnForestLinesRow.holds Try.pinned (OpenSpec.ofChange fnForestLinesSpec)

/-- ITS FALSE NEIGHBOUR: 'it returns false'. Refute it at one input. -/
def fnForestLinesWrong : ChangeSpec := { name := "fnForestLines", fn := fun _ => fun
  | [d] => { results := [.lit (.bool false)], args := [d] }
  | _ => none }
def FnForestLinesWrongFalsely : Prop := fnForestLinesRow.holds Try.pinned (OpenSpec.ofChange fnForestLinesWrong)

/-- 'laws.FnFirstChance': WHATEVER THE INPUT: true; the input reads as it did. -/
def fnFirstChanceSpec : ChangeSpec := { name := "fnFirstChance", fn := fun _ => fun
  | [d] => { results := [.lit (.bool true)], args := [d] }
  | _ => none }
def fnFirstChanceRow : OpenClaim := { program := "ythjmedbjdjkilaa", sum := "6fabfb840b423a2e08ec216e293c644067bf6a00c925cd6907deaca37abd45de", func := "loop.example/ordersthatbranch/laws.FnFirstChance", spec := "fnFirstChance", unfollowed := true, recurses := true, apart := false }
def FnFirstChanceSaid : Prop := fnFirstChanceRow.holds Try.pinned (OpenSpec.ofChange fnFirstChanceSpec)

/-- ITS FALSE NEIGHBOUR: 'it returns false'. Refute it at one input. -/
def fnFirstChanceWrong : ChangeSpec := { name := "fnFirstChance", fn := fun _ => fun
  | [d] => { results := [.lit (.bool false)], args := [d] }
  | _ => none }
def FnFirstChanceWrongFalsely : Prop := fnFirstChanceRow.holds Try.pinned (OpenSpec.ofChange fnFirstChanceWrong)

/-- 'laws.FnExactFirstChance': WHATEVER THE INPUT: true; the input reads as it did. -/
def fnExactFirstChanceSpec : ChangeSpec := { name := "fnExactFirstChance", fn := fun _ => fun
  | [d1, d2, d3] => { results := [.lit (.bool true)], args := [d1, d2, d3] }
  | _ => none }
def fnExactFirstChanceRow : OpenClaim := { program := "ythjmedbjdjkilaa", sum := "6fabfb840b423a2e08ec216e293c644067bf6a00c925cd6907deaca37abd45de", func := "loop.example/ordersthatbranch/laws.FnExactFirstChance", spec := "fnExactFirstChance", unfollowed := true, recurses := true, apart := false }
def FnExactFirstChanceSaid : Prop := fnExactFirstChanceRow.holds Try.pinned (OpenSpec.ofChange fnExactFirstChanceSpec)

/-- ITS FALSE NEIGHBOUR: 'it returns false'. Refute it at one input. -/
def fnExactFirstChanceWrong : ChangeSpec := { name := "fnExactFirstChance", fn := fun _ => fun
  | [d1, d2, d3] => { results := [.lit (.bool false)], args := [d1, d2, d3] }
  | _ => none }
def FnExactFirstChanceWrongFalsely : Prop := fnExactFirstChanceRow.holds Try.pinned (OpenSpec.ofChange fnExactFirstChanceWrong)

/-- 'laws.FnExactLinesOf': WHATEVER THE INPUT: true; the input reads as it did. -/
def fnExactLinesOfSpec : ChangeSpec := { name := "fnExactLinesOf", fn := fun _ => fun
  | [d] => { results := [.lit (.bool true)], args := [d] }
  | _ => none }
def fnExactLinesOfRow : OpenClaim := { program := "ythjmedbjdjkilaa", sum := "6fabfb840b423a2e08ec216e293c644067bf6a00c925cd6907deaca37abd45de", func := "loop.example/ordersthatbranch/laws.FnExactLinesOf", spec := "fnExactLinesOf", unfollowed := true, recurses := true, apart := false }
def FnExactLinesOfSaid : Prop := fnExactLinesOfRow.holds Try.pinned (OpenSpec.ofChange fnExactLinesOfSpec)

/-- ITS FALSE NEIGHBOUR: 'it returns false'. Refute it at one input. -/
def fnExactLinesOfWrong : ChangeSpec := { name := "fnExactLinesOf", fn := fun _ => fun
  | [d] => { results := [.lit (.bool false)], args := [d] }
  | _ => none }
def FnExactLinesOfWrongFalsely : Prop := fnExactLinesOfRow.holds Try.pinned (OpenSpec.ofChange fnExactLinesOfWrong)

/-- 'laws.FnLinesOf': WHATEVER THE INPUT: true; the input reads as it did. -/
def fnLinesOfSpec : ChangeSpec := { name := "fnLinesOf", fn := fun _ => fun
  | [d] => { results := [.lit (.bool true)], args := [d] }
  | _ => none }
def fnLinesOfRow : OpenClaim := { program := "ythjmedbjdjkilaa", sum := "6fabfb840b423a2e08ec216e293c644067bf6a00c925cd6907deaca37abd45de", func := "loop.example/ordersthatbranch/laws.FnLinesOf", spec := "fnLinesOf", unfollowed := true, recurses := true, apart := false }
def FnLinesOfSaid : Prop := fnLinesOfRow.holds Try.pinned (OpenSpec.ofChange fnLinesOfSpec)

/-- ITS FALSE NEIGHBOUR: 'it returns false'. Refute it at one input. -/
def fnLinesOfWrong : ChangeSpec := { name := "fnLinesOf", fn := fun _ => fun
  | [d] => { results := [.lit (.bool false)], args := [d] }
  | _ => none }
def FnLinesOfWrongFalsely : Prop := fnLinesOfRow.holds Try.pinned (OpenSpec.ofChange fnLinesOfWrong)

/-- 'laws.FnExactFewestChains': WHATEVER THE INPUT: true; the input reads as it did. -/
def fnExactFewestChainsSpec : ChangeSpec := { name := "fnExactFewestChains", fn := fun _ => fun
  | [d] => { results := [.lit (.bool true)], args := [d] }
  | _ => none }
def fnExactFewestChainsRow : OpenClaim := { program := "ythjmedbjdjkilaa", sum := "6fabfb840b423a2e08ec216e293c644067bf6a00c925cd6907deaca37abd45de", func := "loop.example/ordersthatbranch/laws.FnExactFewestChains", spec := "fnExactFewestChains", unfollowed := true, recurses := true, apart := false }
def FnExactFewestChainsSaid : Prop := fnExactFewestChainsRow.holds Try.pinned (OpenSpec.ofChange fnExactFewestChainsSpec)

/-- ITS FALSE NEIGHBOUR: 'it returns false'. Refute it at one input. -/
def fnExactFewestChainsWrong : ChangeSpec := { name := "fnExactFewestChains", fn := fun _ => fun
  | [d] => { results := [.lit (.bool false)], args := [d] }
  | _ => none }
def FnExactFewestChainsWrongFalsely : Prop := fnExactFewestChainsRow.holds Try.pinned (OpenSpec.ofChange fnExactFewestChainsWrong)

/-- 'laws.FnExactChainParts': WHATEVER THE INPUT: true; the input reads as it did. -/
def fnExactChainPartsSpec : ChangeSpec := { name := "fnExactChainParts", fn := fun _ => fun
  | [d] => { results := [.lit (.bool true)], args := [d] }
  | _ => none }
def fnExactChainPartsRow : OpenClaim := { program := "ythjmedbjdjkilaa", sum := "6fabfb840b423a2e08ec216e293c644067bf6a00c925cd6907deaca37abd45de", func := "loop.example/ordersthatbranch/laws.FnExactChainParts", spec := "fnExactChainParts", unfollowed := true, recurses := true, apart := false }
def FnExactChainPartsSaid : Prop := fnExactChainPartsRow.holds Try.pinned (OpenSpec.ofChange fnExactChainPartsSpec)

/-- ITS FALSE NEIGHBOUR: 'it returns false'. Refute it at one input. -/
def fnExactChainPartsWrong : ChangeSpec := { name := "fnExactChainParts", fn := fun _ => fun
  | [d] => { results := [.lit (.bool false)], args := [d] }
  | _ => none }
def FnExactChainPartsWrongFalsely : Prop := fnExactChainPartsRow.holds Try.pinned (OpenSpec.ofChange fnExactChainPartsWrong)

/-- 'laws.FnChainParts': WHATEVER THE INPUT: true; the input reads as it did. -/
def fnChainPartsSpec : ChangeSpec := { name := "fnChainParts", fn := fun _ => fun
  | [d] => { results := [.lit (.bool true)], args := [d] }
  | _ => none }
def fnChainPartsRow : OpenClaim := { program := "ythjmedbjdjkilaa", sum := "6fabfb840b423a2e08ec216e293c644067bf6a00c925cd6907deaca37abd45de", func := "loop.example/ordersthatbranch/laws.FnChainParts", spec := "fnChainParts", unfollowed := true, recurses := true, apart := false }
def FnChainPartsSaid : Prop := fnChainPartsRow.holds Try.pinned (OpenSpec.ofChange fnChainPartsSpec)

/-- ITS FALSE NEIGHBOUR: 'it returns false'. Refute it at one input. -/
def fnChainPartsWrong : ChangeSpec := { name := "fnChainParts", fn := fun _ => fun
  | [d] => { results := [.lit (.bool false)], args := [d] }
  | _ => none }
def FnChainPartsWrongFalsely : Prop := fnChainPartsRow.holds Try.pinned (OpenSpec.ofChange fnChainPartsWrong)

/- THE SECOND FORM. 'bulk': how many values and letters a reading holds, each counted each time it is reached (what is shared counts as often as it is met; a slice's spare places count too). A statement '..UptoSaid' is the law's where the arguments, and the package variables that the reading takes, are together of bulk at most 1048576: NARROWER than '..Said'. Prove '..Said' where nothing that the law and all that it calls make is longer than what came in: it says more and counts as full. Else prove '..UptoSaid'. A law counts once. -/
mutual
def uptoBulk {H : Type} : DataW H → Nat
  | .lit (.string bytes) => bytes.length + 1
  | .lit _ => 1
  | .nil => 1
  | .ptr d => uptoBulk d + 1
  | .slice elems spare => uptoBulkAll elems + uptoBulkAll spare + 1
  | .agg parts => uptoBulkAll parts + 1
  | .iface _ d => uptoBulk d + 1
  | .map entries => uptoBulkEntries entries + 1
  | .held _ => 1
def uptoBulkAll {H : Type} : List (DataW H) → Nat
  | [] => 0
  | d :: r => uptoBulk d + uptoBulkAll r
def uptoBulkEntries {H : Type} : List (Lit × DataW H) → Nat
  | [] => 0
  | x :: r => uptoBulkEntry x + uptoBulkEntries r
def uptoBulkEntry {H : Type} : Lit × DataW H → Nat
  | (.string bytes, d) => bytes.length + uptoBulk d + 1
  | (_, d) => uptoBulk d + 1
 end
def uptoSmall : (H : Type) → List (DataW H) → Bool := fun _ ds => decide (uptoBulkAll ds ≤ 1048576)
def OpenSpec.upto (s : _root_.Go.ChangeSpec) : _root_.Go.OpenSpec := { _root_.Go.OpenSpec.ofChange s with cond := some uptoSmall }

/-- 'laws.FnCountLines', WHERE WHAT IT READS IS OF BULK AT MOST 1048576: true; the input reads as it did. -/
def fnCountLinesUptoRow : OpenClaim := { program := "ythjmedbjdjkilaa", sum := "6fabfb840b423a2e08ec216e293c644067bf6a00c925cd6907deaca37abd45de", func := "loop.example/ordersthatbranch/laws.FnCountLines", spec := "fnCountLines", unfollowed := true, recurses := true, apart := false, narrowed := true }
def FnCountLinesUptoSaid : Prop := fnCountLinesUptoRow.holds Try.pinned (OpenSpec.upto fnCountLinesSpec)

/-- 'laws.FnIsLine', WHERE WHAT IT READS IS OF BULK AT MOST 1048576: true; the input reads as it did. -/
def fnIsLineUptoRow : OpenClaim := { program := "ythjmedbjdjkilaa", sum := "6fabfb840b423a2e08ec216e293c644067bf6a00c925cd6907deaca37abd45de", func := "loop.example/ordersthatbranch/laws.FnIsLine", spec := "fnIsLine", unfollowed := true, recurses := true, apart := false, narrowed := true }
def FnIsLineUptoSaid : Prop := fnIsLineUptoRow.holds Try.pinned (OpenSpec.upto fnIsLineSpec)

/-- 'laws.FnLineRank', WHERE WHAT IT READS IS OF BULK AT MOST 1048576: true; the input reads as it did. -/
def fnLineRankUptoRow : OpenClaim := { program := "ythjmedbjdjkilaa", sum := "6fabfb840b423a2e08ec216e293c644067bf6a00c925cd6907deaca37abd45de", func := "loop.example/ordersthatbranch/laws.FnLineRank", spec := "fnLineRank", unfollowed := true, recurses := true, apart := false, narrowed := true }
def FnLineRankUptoSaid : Prop := fnLineRankUptoRow.holds Try.pinned (OpenSpec.upto fnLineRankSpec)

/-- 'laws.FnLineAt', WHERE WHAT IT READS IS OF BULK AT MOST 1048576: true; the input reads as it did. -/
def fnLineAtUptoRow : OpenClaim := { program := "ythjmedbjdjkilaa", sum := "6fabfb840b423a2e08ec216e293c644067bf6a00c925cd6907deaca37abd45de", func := "loop.example/ordersthatbranch/laws.FnLineAt", spec := "fnLineAt", unfollowed := true, recurses := true, apart := false, narrowed := true }
def FnLineAtUptoSaid : Prop := fnLineAtUptoRow.holds Try.pinned (OpenSpec.upto fnLineAtSpec)

/-- 'laws.FnForestLines', WHERE WHAT IT READS IS OF BULK AT MOST 1048576: true; the input reads as it did. -/
def fnForestLinesUptoRow : OpenClaim := { program := "ythjmedbjdjkilaa", sum := "6fabfb840b423a2e08ec216e293c644067bf6a00c925cd6907deaca37abd45de", func := "loop.example/ordersthatbranch/laws.FnForestLines", spec := "fnForestLines", unfollowed := true, recurses := true, apart := false, narrowed := true }
def FnForestLinesUptoSaid : Prop := fnForestLinesUptoRow.holds Try.pinned (OpenSpec.upto fnForestLinesSpec)

/-- 'laws.FnFirstChance', WHERE WHAT IT READS IS OF BULK AT MOST 1048576: true; the input reads as it did. -/
def fnFirstChanceUptoRow : OpenClaim := { program := "ythjmedbjdjkilaa", sum := "6fabfb840b423a2e08ec216e293c644067bf6a00c925cd6907deaca37abd45de", func := "loop.example/ordersthatbranch/laws.FnFirstChance", spec := "fnFirstChance", unfollowed := true, recurses := true, apart := false, narrowed := true }
def FnFirstChanceUptoSaid : Prop := fnFirstChanceUptoRow.holds Try.pinned (OpenSpec.upto fnFirstChanceSpec)

/-- 'laws.FnExactFirstChance', WHERE WHAT IT READS IS OF BULK AT MOST 1048576: true; the input reads as it did. -/
def fnExactFirstChanceUptoRow : OpenClaim := { program := "ythjmedbjdjkilaa", sum := "6fabfb840b423a2e08ec216e293c644067bf6a00c925cd6907deaca37abd45de", func := "loop.example/ordersthatbranch/laws.FnExactFirstChance", spec := "fnExactFirstChance", unfollowed := true, recurses := true, apart := false, narrowed := true }
def FnExactFirstChanceUptoSaid : Prop := fnExactFirstChanceUptoRow.holds Try.pinned (OpenSpec.upto fnExactFirstChanceSpec)

/-- 'laws.FnExactLinesOf', WHERE WHAT IT READS IS OF BULK AT MOST 1048576: true; the input reads as it did. -/
def fnExactLinesOfUptoRow : OpenClaim := { program := "ythjmedbjdjkilaa", sum := "6fabfb840b423a2e08ec216e293c644067bf6a00c925cd6907deaca37abd45de", func := "loop.example/ordersthatbranch/laws.FnExactLinesOf", spec := "fnExactLinesOf", unfollowed := true, recurses := true, apart := false, narrowed := true }
def FnExactLinesOfUptoSaid : Prop := fnExactLinesOfUptoRow.holds Try.pinned (OpenSpec.upto fnExactLinesOfSpec)

/-- 'laws.FnLinesOf', WHERE WHAT IT READS IS OF BULK AT MOST 1048576: true; the input reads as it did. -/
def fnLinesOfUptoRow : OpenClaim := { program := "ythjmedbjdjkilaa", sum := "6fabfb840b423a2e08ec216e293c644067bf6a00c925cd6907deaca37abd45de", func := "loop.example/ordersthatbranch/laws.FnLinesOf", spec := "fnLinesOf", unfollowed := true, recurses := true, apart := false, narrowed := true }
def FnLinesOfUptoSaid : Prop := fnLinesOfUptoRow.holds Try.pinned (OpenSpec.upto fnLinesOfSpec)

/-- 'laws.FnExactFewestChains', WHERE WHAT IT READS IS OF BULK AT MOST 1048576: true; the input reads as it did. -/
def fnExactFewestChainsUptoRow : OpenClaim := { program := "ythjmedbjdjkilaa", sum := "6fabfb840b423a2e08ec216e293c644067bf6a00c925cd6907deaca37abd45de", func := "loop.example/ordersthatbranch/laws.FnExactFewestChains", spec := "fnExactFewestChains", unfollowed := true, recurses := true, apart := false, narrowed := true }
def FnExactFewestChainsUptoSaid : Prop := fnExactFewestChainsUptoRow.holds Try.pinned (OpenSpec.upto fnExactFewestChainsSpec)

/-- 'laws.FnExactChainParts', WHERE WHAT IT READS IS OF BULK AT MOST 1048576: true; the input reads as it did. -/
def fnExactChainPartsUptoRow : OpenClaim := { program := "ythjmedbjdjkilaa", sum := "6fabfb840b423a2e08ec216e293c644067bf6a00c925cd6907deaca37abd45de", func := "loop.example/ordersthatbranch/laws.FnExactChainParts", spec := "fnExactChainParts", unfollowed := true, recurses := true, apart := false, narrowed := true }
def FnExactChainPartsUptoSaid : Prop := fnExactChainPartsUptoRow.holds Try.pinned (OpenSpec.upto fnExactChainPartsSpec)

/-- 'laws.FnChainParts', WHERE WHAT IT READS IS OF BULK AT MOST 1048576: true; the input reads as it did. -/
def fnChainPartsUptoRow : OpenClaim := { program := "ythjmedbjdjkilaa", sum := "6fabfb840b423a2e08ec216e293c644067bf6a00c925cd6907deaca37abd45de", func := "loop.example/ordersthatbranch/laws.FnChainParts", spec := "fnChainParts", unfollowed := true, recurses := true, apart := false, narrowed := true }
def FnChainPartsUptoSaid : Prop := fnChainPartsUptoRow.holds Try.pinned (OpenSpec.upto fnChainPartsSpec)

end Rows
end Go.Proofs.Ythjmedbjdjkilaa
