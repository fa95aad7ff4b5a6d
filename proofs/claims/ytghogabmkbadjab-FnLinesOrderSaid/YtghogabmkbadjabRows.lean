/-
  No cell of these rows narrows 'for every input' (looked for: loops, veiled, ifaces, maps, wideKeys, modest, calm, conditions, laid).
  DERIVED. THE GIVEN ROWS OF THIS SEAT. 11 by the template 'for every input the law returns true; each argument reads behind the call as it read before'; 0 by the template 'total and deterministic' (their statements: YtghogabmkbadjabTotals.lean).
  GIVEN WITH THE SEED: the statements are not yours to turn. If you find one false, say at which input.
  Laid BY PROGRAM, IN A SANDBOX (cutbox-rows.mjs): the forced cells as the released guide's own fill.sh prints them over the translation 6ed6aa2b293db316… (all of the seat's roots in one cut). By AI agents, Wed Nov 11 2026. No macro, syntax, notation, axiom, sorry.
-/
import Derived.Test.YtghogabmkbadjabChecked
import GoSem.Claim
import GoSem.ClaimJoined
import GoSem.ClaimMapViews
import Derived.JoinedTies
import Derived.KernelRfl
namespace Go.Proofs.Ytghogabmkbadjab
/- THE CELL 'sum', in the pinned program and in every row, IS THE sha256 OF THE DUMP (.gsa) THAT YtghogabmkbadjabProg.lean LOADS. Nothing in Lean hashes anything: it is a label: what it is worth is what the hold of that sum in a sandbox is worth. -/
noncomputable def Try.pinned : Pinned := { name := "ytghogabmkbadjab", sum := "6ed6aa2b293db316df8ecaf7fc94b3fc3e7a043c67de813fb38e611107aae786", checked := Try.checked }
namespace Rows
def none {H : Type} : Left H := { results := [], args := [] }

/-- 'laws.FnExactHasZigzag': WHATEVER THE INPUT: true; the input reads as it did. -/
def fnExactHasZigzagSpec : ChangeSpec := { name := "fnExactHasZigzag", fn := fun _ => fun
  | [d] => { results := [.lit (.bool true)], args := [d] }
  | _ => none }
def fnExactHasZigzagRow : OpenClaim := { program := "ytghogabmkbadjab", sum := "6ed6aa2b293db316df8ecaf7fc94b3fc3e7a043c67de813fb38e611107aae786", func := "loop.example/ordersthatbranch/laws.FnExactHasZigzag", spec := "fnExactHasZigzag", unfollowed := true, recurses := true, apart := false }
def FnExactHasZigzagSaid : Prop := fnExactHasZigzagRow.holds Try.pinned (OpenSpec.ofChange fnExactHasZigzagSpec)

/-- ITS FALSE NEIGHBOUR: 'it returns false'. Refute it at one input. -/
def fnExactHasZigzagWrong : ChangeSpec := { name := "fnExactHasZigzag", fn := fun _ => fun
  | [d] => { results := [.lit (.bool false)], args := [d] }
  | _ => none }
def FnExactHasZigzagWrongFalsely : Prop := fnExactHasZigzagRow.holds Try.pinned (OpenSpec.ofChange fnExactHasZigzagWrong)

/-- 'laws.FnFewestLines': WHATEVER THE INPUT: true; the input reads as it did. -/
def fnFewestLinesSpec : ChangeSpec := { name := "fnFewestLines", fn := fun _ => fun
  | [d] => { results := [.lit (.bool true)], args := [d] }
  | _ => none }
def fnFewestLinesRow : OpenClaim := { program := "ytghogabmkbadjab", sum := "6ed6aa2b293db316df8ecaf7fc94b3fc3e7a043c67de813fb38e611107aae786", func := "loop.example/ordersthatbranch/laws.FnFewestLines", spec := "fnFewestLines", unfollowed := true, recurses := true, apart := false }
def FnFewestLinesSaid : Prop := fnFewestLinesRow.holds Try.pinned (OpenSpec.ofChange fnFewestLinesSpec)

/-- ITS FALSE NEIGHBOUR: 'it returns false'. Refute it at one input. -/
def fnFewestLinesWrong : ChangeSpec := { name := "fnFewestLines", fn := fun _ => fun
  | [d] => { results := [.lit (.bool false)], args := [d] }
  | _ => none }
def FnFewestLinesWrongFalsely : Prop := fnFewestLinesRow.holds Try.pinned (OpenSpec.ofChange fnFewestLinesWrong)

/-- 'laws.FnLinesOrder': WHATEVER THE INPUT: true; the input reads as it did. -/
def fnLinesOrderSpec : ChangeSpec := { name := "fnLinesOrder", fn := fun _ => fun
  | [d] => { results := [.lit (.bool true)], args := [d] }
  | _ => none }
def fnLinesOrderRow : OpenClaim := { program := "ytghogabmkbadjab", sum := "6ed6aa2b293db316df8ecaf7fc94b3fc3e7a043c67de813fb38e611107aae786", func := "loop.example/ordersthatbranch/laws.FnLinesOrder", spec := "fnLinesOrder", unfollowed := true, recurses := true, apart := false }
def FnLinesOrderSaid : Prop := fnLinesOrderRow.holds Try.pinned (OpenSpec.ofChange fnLinesOrderSpec)

/-- ITS FALSE NEIGHBOUR: 'it returns false'. Refute it at one input. -/
def fnLinesOrderWrong : ChangeSpec := { name := "fnLinesOrder", fn := fun _ => fun
  | [d] => { results := [.lit (.bool false)], args := [d] }
  | _ => none }
def FnLinesOrderWrongFalsely : Prop := fnLinesOrderRow.holds Try.pinned (OpenSpec.ofChange fnLinesOrderWrong)

/-- 'laws.FnFewestChains': WHATEVER THE INPUT: true; the input reads as it did. -/
def fnFewestChainsSpec : ChangeSpec := { name := "fnFewestChains", fn := fun _ => fun
  | [d] => { results := [.lit (.bool true)], args := [d] }
  | _ => none }
def fnFewestChainsRow : OpenClaim := { program := "ytghogabmkbadjab", sum := "6ed6aa2b293db316df8ecaf7fc94b3fc3e7a043c67de813fb38e611107aae786", func := "loop.example/ordersthatbranch/laws.FnFewestChains", spec := "fnFewestChains", unfollowed := true, recurses := true, apart := false }
def FnFewestChainsSaid : Prop := fnFewestChainsRow.holds Try.pinned (OpenSpec.ofChange fnFewestChainsSpec)

/-- ITS FALSE NEIGHBOUR: 'it returns false'. Refute it at one input. -/
def fnFewestChainsWrong : ChangeSpec := { name := "fnFewestChains", fn := fun _ => fun
  | [d] => { results := [.lit (.bool false)], args := [d] }
  | _ => none }
def FnFewestChainsWrongFalsely : Prop := fnFewestChainsRow.holds Try.pinned (OpenSpec.ofChange fnFewestChainsWrong)

/-- 'laws.FnChainParts': WHATEVER THE INPUT: true; the input reads as it did. -/
def fnChainPartsSpec : ChangeSpec := { name := "fnChainParts", fn := fun _ => fun
  | [d] => { results := [.lit (.bool true)], args := [d] }
  | _ => none }
def fnChainPartsRow : OpenClaim := { program := "ytghogabmkbadjab", sum := "6ed6aa2b293db316df8ecaf7fc94b3fc3e7a043c67de813fb38e611107aae786", func := "loop.example/ordersthatbranch/laws.FnChainParts", spec := "fnChainParts", unfollowed := true, recurses := true, apart := false }
def FnChainPartsSaid : Prop := fnChainPartsRow.holds Try.pinned (OpenSpec.ofChange fnChainPartsSpec)

/-- ITS FALSE NEIGHBOUR: 'it returns false'. Refute it at one input. -/
def fnChainPartsWrong : ChangeSpec := { name := "fnChainParts", fn := fun _ => fun
  | [d] => { results := [.lit (.bool false)], args := [d] }
  | _ => none }
def FnChainPartsWrongFalsely : Prop := fnChainPartsRow.holds Try.pinned (OpenSpec.ofChange fnChainPartsWrong)

/-- 'laws.FnExactLinesOf': WHATEVER THE INPUT: true; the input reads as it did. -/
def fnExactLinesOfSpec : ChangeSpec := { name := "fnExactLinesOf", fn := fun _ => fun
  | [d] => { results := [.lit (.bool true)], args := [d] }
  | _ => none }
def fnExactLinesOfRow : OpenClaim := { program := "ytghogabmkbadjab", sum := "6ed6aa2b293db316df8ecaf7fc94b3fc3e7a043c67de813fb38e611107aae786", func := "loop.example/ordersthatbranch/laws.FnExactLinesOf", spec := "fnExactLinesOf", unfollowed := true, recurses := true, apart := false }
def FnExactLinesOfSaid : Prop := fnExactLinesOfRow.holds Try.pinned (OpenSpec.ofChange fnExactLinesOfSpec)

/-- ITS FALSE NEIGHBOUR: 'it returns false'. Refute it at one input. -/
def fnExactLinesOfWrong : ChangeSpec := { name := "fnExactLinesOf", fn := fun _ => fun
  | [d] => { results := [.lit (.bool false)], args := [d] }
  | _ => none }
def FnExactLinesOfWrongFalsely : Prop := fnExactLinesOfRow.holds Try.pinned (OpenSpec.ofChange fnExactLinesOfWrong)

/-- 'laws.FnLinesOf': WHATEVER THE INPUT: true; the input reads as it did. -/
def fnLinesOfSpec : ChangeSpec := { name := "fnLinesOf", fn := fun _ => fun
  | [d] => { results := [.lit (.bool true)], args := [d] }
  | _ => none }
def fnLinesOfRow : OpenClaim := { program := "ytghogabmkbadjab", sum := "6ed6aa2b293db316df8ecaf7fc94b3fc3e7a043c67de813fb38e611107aae786", func := "loop.example/ordersthatbranch/laws.FnLinesOf", spec := "fnLinesOf", unfollowed := true, recurses := true, apart := false }
def FnLinesOfSaid : Prop := fnLinesOfRow.holds Try.pinned (OpenSpec.ofChange fnLinesOfSpec)

/-- ITS FALSE NEIGHBOUR: 'it returns false'. Refute it at one input. -/
def fnLinesOfWrong : ChangeSpec := { name := "fnLinesOf", fn := fun _ => fun
  | [d] => { results := [.lit (.bool false)], args := [d] }
  | _ => none }
def FnLinesOfWrongFalsely : Prop := fnLinesOfRow.holds Try.pinned (OpenSpec.ofChange fnLinesOfWrong)

/-- 'laws.FnExactWideOf': WHATEVER THE INPUT: true; the input reads as it did. -/
def fnExactWideOfSpec : ChangeSpec := { name := "fnExactWideOf", fn := fun _ => fun
  | [d] => { results := [.lit (.bool true)], args := [d] }
  | _ => none }
def fnExactWideOfRow : OpenClaim := { program := "ytghogabmkbadjab", sum := "6ed6aa2b293db316df8ecaf7fc94b3fc3e7a043c67de813fb38e611107aae786", func := "loop.example/ordersthatbranch/laws.FnExactWideOf", spec := "fnExactWideOf", unfollowed := true, recurses := true, apart := false }
def FnExactWideOfSaid : Prop := fnExactWideOfRow.holds Try.pinned (OpenSpec.ofChange fnExactWideOfSpec)

/-- ITS FALSE NEIGHBOUR: 'it returns false'. Refute it at one input. -/
def fnExactWideOfWrong : ChangeSpec := { name := "fnExactWideOf", fn := fun _ => fun
  | [d] => { results := [.lit (.bool false)], args := [d] }
  | _ => none }
def FnExactWideOfWrongFalsely : Prop := fnExactWideOfRow.holds Try.pinned (OpenSpec.ofChange fnExactWideOfWrong)

/-- 'laws.FnWideOf': WHATEVER THE INPUT: true; the input reads as it did. -/
def fnWideOfSpec : ChangeSpec := { name := "fnWideOf", fn := fun _ => fun
  | [d] => { results := [.lit (.bool true)], args := [d] }
  | _ => none }
def fnWideOfRow : OpenClaim := { program := "ytghogabmkbadjab", sum := "6ed6aa2b293db316df8ecaf7fc94b3fc3e7a043c67de813fb38e611107aae786", func := "loop.example/ordersthatbranch/laws.FnWideOf", spec := "fnWideOf", unfollowed := true, recurses := true, apart := false }
def FnWideOfSaid : Prop := fnWideOfRow.holds Try.pinned (OpenSpec.ofChange fnWideOfSpec)

/-- ITS FALSE NEIGHBOUR: 'it returns false'. Refute it at one input. -/
def fnWideOfWrong : ChangeSpec := { name := "fnWideOf", fn := fun _ => fun
  | [d] => { results := [.lit (.bool false)], args := [d] }
  | _ => none }
def FnWideOfWrongFalsely : Prop := fnWideOfRow.holds Try.pinned (OpenSpec.ofChange fnWideOfWrong)

/-- 'laws.FnExactLinesOrder': WHATEVER THE INPUT: true; the input reads as it did. -/
def fnExactLinesOrderSpec : ChangeSpec := { name := "fnExactLinesOrder", fn := fun _ => fun
  | [d1, d2] => { results := [.lit (.bool true)], args := [d1, d2] }
  | _ => none }
def fnExactLinesOrderRow : OpenClaim := { program := "ytghogabmkbadjab", sum := "6ed6aa2b293db316df8ecaf7fc94b3fc3e7a043c67de813fb38e611107aae786", func := "loop.example/ordersthatbranch/laws.FnExactLinesOrder", spec := "fnExactLinesOrder", unfollowed := true, recurses := true, apart := false }
def FnExactLinesOrderSaid : Prop := fnExactLinesOrderRow.holds Try.pinned (OpenSpec.ofChange fnExactLinesOrderSpec)

/-- ITS FALSE NEIGHBOUR: 'it returns false'. Refute it at one input. -/
def fnExactLinesOrderWrong : ChangeSpec := { name := "fnExactLinesOrder", fn := fun _ => fun
  | [d1, d2] => { results := [.lit (.bool false)], args := [d1, d2] }
  | _ => none }
def FnExactLinesOrderWrongFalsely : Prop := fnExactLinesOrderRow.holds Try.pinned (OpenSpec.ofChange fnExactLinesOrderWrong)

/-- 'laws.FnPlaneLines': WHATEVER THE INPUT: true; the input reads as it did. -/
def fnPlaneLinesSpec : ChangeSpec := { name := "fnPlaneLines", fn := fun _ => fun
  | [d] => { results := [.lit (.bool true)], args := [d] }
  | _ => none }
def fnPlaneLinesRow : OpenClaim := { program := "ytghogabmkbadjab", sum := "6ed6aa2b293db316df8ecaf7fc94b3fc3e7a043c67de813fb38e611107aae786", func := "loop.example/ordersthatbranch/laws.FnPlaneLines", spec := "fnPlaneLines", unfollowed := true, recurses := true, apart := false }
def FnPlaneLinesSaid : Prop := fnPlaneLinesRow.holds Try.pinned (OpenSpec.ofChange fnPlaneLinesSpec)

/-- ITS FALSE NEIGHBOUR: 'it returns false'. Refute it at one input. -/
def fnPlaneLinesWrong : ChangeSpec := { name := "fnPlaneLines", fn := fun _ => fun
  | [d] => { results := [.lit (.bool false)], args := [d] }
  | _ => none }
def FnPlaneLinesWrongFalsely : Prop := fnPlaneLinesRow.holds Try.pinned (OpenSpec.ofChange fnPlaneLinesWrong)

/- THE SECOND FORM. 'bulk': how many values and letters a reading holds, each counted each time it is reached (what is shared counts as often as it is met; a slice's spare places count too). A statement '..UptoSaid' is the law's where the arguments, and the package variables that the reading takes, are together of bulk at most 1048576: NARROWER than '..Said'. Prove '..Said' where nothing that the law and all that it calls make is longer than what came in: it says more and counts as full. Else prove '..UptoSaid'. A law counts once. -/
mutual
def uptoBulk {H : Type} : DataW H → Nat
  | .lit (.string bytes) => bytes.length + 1
  | .lit _ => 1
  | .nil => 1
  | .ptr d => uptoBulk d + 1
  | .slice elems spare => uptoBulkAll elems + uptoBulkAll spare + 1
  | .agg parts => uptoBulkAll parts + 1
  | .iface _ d => uptoBulk d + 1
  | .map entries => uptoBulkEntries entries + 1
  | .held _ => 1
def uptoBulkAll {H : Type} : List (DataW H) → Nat
  | [] => 0
  | d :: r => uptoBulk d + uptoBulkAll r
def uptoBulkEntries {H : Type} : List (Lit × DataW H) → Nat
  | [] => 0
  | x :: r => uptoBulkEntry x + uptoBulkEntries r
def uptoBulkEntry {H : Type} : Lit × DataW H → Nat
  | (.string bytes, d) => bytes.length + uptoBulk d + 1
  | (_, d) => uptoBulk d + 1
 end
def uptoSmall : (H : Type) → List (DataW H) → Bool := fun _ ds => decide (uptoBulkAll ds ≤ 1048576)
def OpenSpec.upto (s : _root_.Go.ChangeSpec) : _root_.Go.OpenSpec := { _root_.Go.OpenSpec.ofChange s with cond := some uptoSmall }

/-- 'laws.FnExactHasZigzag', WHERE WHAT IT READS IS OF BULK AT MOST 1048576: true; the input reads as it did. -/
def fnExactHasZigzagUptoRow : OpenClaim := { program := "ytghogabmkbadjab", sum := "6ed6aa2b293db316df8ecaf7fc94b3fc3e7a043c67de813fb38e611107aae786", func := "loop.example/ordersthatbranch/laws.FnExactHasZigzag", spec := "fnExactHasZigzag", unfollowed := true, recurses := true, apart := false, narrowed := true }
def FnExactHasZigzagUptoSaid : Prop := fnExactHasZigzagUptoRow.holds Try.pinned (OpenSpec.upto fnExactHasZigzagSpec)

/-- 'laws.FnFewestLines', WHERE WHAT IT READS IS OF BULK AT MOST 1048576: true; the input reads as it did. -/
def fnFewestLinesUptoRow : OpenClaim := { program := "ytghogabmkbadjab", sum := "6ed6aa2b293db316df8ecaf7fc94b3fc3e7a043c67de813fb38e611107aae786", func := "loop.example/ordersthatbranch/laws.FnFewestLines", spec := "fnFewestLines", unfollowed := true, recurses := true, apart := false, narrowed := true }
def FnFewestLinesUptoSaid : Prop := fnFewestLinesUptoRow.holds Try.pinned (OpenSpec.upto fnFewestLinesSpec)

/-- 'laws.FnLinesOrder', WHERE WHAT IT READS IS OF BULK AT MOST 1048576: true; the input reads as it did. -/
def fnLinesOrderUptoRow : OpenClaim := { program := "ytghogabmkbadjab", sum := "6ed6aa2b293db316df8ecaf7fc94b3fc3e7a043c67de813fb38e611107aae786", func := "loop.example/ordersthatbranch/laws.FnLinesOrder", spec := "fnLinesOrder", unfollowed := true, recurses := true, apart := false, narrowed := true }
def FnLinesOrderUptoSaid : Prop := fnLinesOrderUptoRow.holds Try.pinned (OpenSpec.upto fnLinesOrderSpec)

/-- 'laws.FnFewestChains', WHERE WHAT IT READS IS OF BULK AT MOST 1048576: true; the input reads as it did. -/
def fnFewestChainsUptoRow : OpenClaim := { program := "ytghogabmkbadjab", sum := "6ed6aa2b293db316df8ecaf7fc94b3fc3e7a043c67de813fb38e611107aae786", func := "loop.example/ordersthatbranch/laws.FnFewestChains", spec := "fnFewestChains", unfollowed := true, recurses := true, apart := false, narrowed := true }
def FnFewestChainsUptoSaid : Prop := fnFewestChainsUptoRow.holds Try.pinned (OpenSpec.upto fnFewestChainsSpec)

/-- 'laws.FnChainParts', WHERE WHAT IT READS IS OF BULK AT MOST 1048576: true; the input reads as it did. -/
def fnChainPartsUptoRow : OpenClaim := { program := "ytghogabmkbadjab", sum := "6ed6aa2b293db316df8ecaf7fc94b3fc3e7a043c67de813fb38e611107aae786", func := "loop.example/ordersthatbranch/laws.FnChainParts", spec := "fnChainParts", unfollowed := true, recurses := true, apart := false, narrowed := true }
def FnChainPartsUptoSaid : Prop := fnChainPartsUptoRow.holds Try.pinned (OpenSpec.upto fnChainPartsSpec)

/-- 'laws.FnExactLinesOf', WHERE WHAT IT READS IS OF BULK AT MOST 1048576: true; the input reads as it did. -/
def fnExactLinesOfUptoRow : OpenClaim := { program := "ytghogabmkbadjab", sum := "6ed6aa2b293db316df8ecaf7fc94b3fc3e7a043c67de813fb38e611107aae786", func := "loop.example/ordersthatbranch/laws.FnExactLinesOf", spec := "fnExactLinesOf", unfollowed := true, recurses := true, apart := false, narrowed := true }
def FnExactLinesOfUptoSaid : Prop := fnExactLinesOfUptoRow.holds Try.pinned (OpenSpec.upto fnExactLinesOfSpec)

/-- 'laws.FnLinesOf', WHERE WHAT IT READS IS OF BULK AT MOST 1048576: true; the input reads as it did. -/
def fnLinesOfUptoRow : OpenClaim := { program := "ytghogabmkbadjab", sum := "6ed6aa2b293db316df8ecaf7fc94b3fc3e7a043c67de813fb38e611107aae786", func := "loop.example/ordersthatbranch/laws.FnLinesOf", spec := "fnLinesOf", unfollowed := true, recurses := true, apart := false, narrowed := true }
def FnLinesOfUptoSaid : Prop := fnLinesOfUptoRow.holds Try.pinned (OpenSpec.upto fnLinesOfSpec)

/-- 'laws.FnExactWideOf', WHERE WHAT IT READS IS OF BULK AT MOST 1048576: true; the input reads as it did. -/
def fnExactWideOfUptoRow : OpenClaim := { program := "ytghogabmkbadjab", sum := "6ed6aa2b293db316df8ecaf7fc94b3fc3e7a043c67de813fb38e611107aae786", func := "loop.example/ordersthatbranch/laws.FnExactWideOf", spec := "fnExactWideOf", unfollowed := true, recurses := true, apart := false, narrowed := true }
def FnExactWideOfUptoSaid : Prop := fnExactWideOfUptoRow.holds Try.pinned (OpenSpec.upto fnExactWideOfSpec)

/-- 'laws.FnWideOf', WHERE WHAT IT READS IS OF BULK AT MOST 1048576: true; the input reads as it did. -/
def fnWideOfUptoRow : OpenClaim := { program := "ytghogabmkbadjab", sum := "6ed6aa2b293db316df8ecaf7fc94b3fc3e7a043c67de813fb38e611107aae786", func := "loop.example/ordersthatbranch/laws.FnWideOf", spec := "fnWideOf", unfollowed := true, recurses := true, apart := false, narrowed := true }
def FnWideOfUptoSaid : Prop := fnWideOfUptoRow.holds Try.pinned (OpenSpec.upto fnWideOfSpec)

/-- 'laws.FnExactLinesOrder', WHERE WHAT IT READS IS OF BULK AT MOST 1048576: true; the input reads as it did. -/
def fnExactLinesOrderUptoRow : OpenClaim := { program := "ytghogabmkbadjab", sum := "6ed6aa2b293db316df8ecaf7fc94b3fc3e7a043c67de813fb38e611107aae786", func := "loop.example/ordersthatbranch/laws.FnExactLinesOrder", spec := "fnExactLinesOrder", unfollowed := true, recurses := true, apart := false, narrowed := true }
def FnExactLinesOrderUptoSaid : Prop := fnExactLinesOrderUptoRow.holds Try.pinned (OpenSpec.upto fnExactLinesOrderSpec)

/-- 'laws.FnPlaneLines', WHERE WHAT IT READS IS OF BULK AT MOST 1048576: true; the input reads as it did. -/
def fnPlaneLinesUptoRow : OpenClaim := { program := "ytghogabmkbadjab", sum := "6ed6aa2b293db316df8ecaf7fc94b3fc3e7a043c67de813fb38e611107aae786", func := "loop.example/ordersthatbranch/laws.FnPlaneLines", spec := "fnPlaneLines", unfollowed := true, recurses := true, apart := false, narrowed := true }
def FnPlaneLinesUptoSaid : Prop := fnPlaneLinesUptoRow.holds Try.pinned (OpenSpec.upto fnPlaneLinesSpec)

end Rows
end Go.Proofs.Ytghogabmkbadjab
