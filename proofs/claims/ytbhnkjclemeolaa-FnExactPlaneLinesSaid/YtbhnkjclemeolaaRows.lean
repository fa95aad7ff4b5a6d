/-
  No cell of these rows narrows 'for every input' (looked for: loops, veiled, ifaces, maps, wideKeys, modest, calm, conditions, laid).
  DERIVED. THE GIVEN ROWS OF THIS SEAT. 8 by the template 'for every input the law returns true; each argument reads behind the call as it read before'; 0 by the template 'total and deterministic' (their statements: YtbhnkjclemeolaaTotals.lean).
  GIVEN WITH THE SEED: the statements are not yours to turn. If you find one false, say at which input.
  Laid BY PROGRAM, IN A SANDBOX (cutbox-rows.mjs): the forced cells as the released guide's own fill.sh prints them over the translation f9965e05fe9166dc… (all of the seat's roots in one cut). By AI agents, Wed Nov 11 2026. No macro, syntax, notation, axiom, sorry.
-/
import Derived.Test.YtbhnkjclemeolaaChecked
import GoSem.Claim
import GoSem.ClaimJoined
import GoSem.ClaimMapViews
import Derived.JoinedTies
import Derived.KernelRfl
namespace Go.Proofs.Ytbhnkjclemeolaa
/- THE CELL 'sum', in the pinned program and in every row, IS THE sha256 OF THE DUMP (.gsa) THAT YtbhnkjclemeolaaProg.lean LOADS. Nothing in Lean hashes anything: it is a label: what it is worth is what the hold of that sum in a sandbox is worth. -/
noncomputable def Try.pinned : Pinned := { name := "ytbhnkjclemeolaa", sum := "f9965e05fe9166dccfc4df95329317db1ba391b2e0a13c306683ddad9f81e95d", checked := Try.checked }
namespace Rows
def none {H : Type} : Left H := { results := [], args := [] }

/-- 'laws.FnExactLinesOrder': WHATEVER THE INPUT: true; the input reads as it did. -/
def fnExactLinesOrderSpec : ChangeSpec := { name := "fnExactLinesOrder", fn := fun _ => fun
  | [d1, d2] => { results := [.lit (.bool true)], args := [d1, d2] }
  | _ => none }
def fnExactLinesOrderRow : OpenClaim := { program := "ytbhnkjclemeolaa", sum := "f9965e05fe9166dccfc4df95329317db1ba391b2e0a13c306683ddad9f81e95d", func := "loop.example/ordersthatbranch/laws.FnExactLinesOrder", spec := "fnExactLinesOrder", unfollowed := true, recurses := true, apart := false }
def FnExactLinesOrderSaid : Prop := fnExactLinesOrderRow.holds Try.pinned (OpenSpec.ofChange fnExactLinesOrderSpec)

/-- ITS FALSE NEIGHBOUR: 'it returns false'. Refute it at one input. -/
def fnExactLinesOrderWrong : ChangeSpec := { name := "fnExactLinesOrder", fn := fun _ => fun
  | [d1, d2] => { results := [.lit (.bool false)], args := [d1, d2] }
  | _ => none }
def FnExactLinesOrderWrongFalsely : Prop := fnExactLinesOrderRow.holds Try.pinned (OpenSpec.ofChange fnExactLinesOrderWrong)

/-- 'laws.FnExactSideOrder': WHATEVER THE INPUT: true; the input reads as it did. -/
def fnExactSideOrderSpec : ChangeSpec := { name := "fnExactSideOrder", fn := fun _ => fun
  | [d] => { results := [.lit (.bool true)], args := [d] }
  | _ => none }
def fnExactSideOrderRow : OpenClaim := { program := "ytbhnkjclemeolaa", sum := "f9965e05fe9166dccfc4df95329317db1ba391b2e0a13c306683ddad9f81e95d", func := "loop.example/ordersthatbranch/laws.FnExactSideOrder", spec := "fnExactSideOrder", unfollowed := true, recurses := true, apart := false }
def FnExactSideOrderSaid : Prop := fnExactSideOrderRow.holds Try.pinned (OpenSpec.ofChange fnExactSideOrderSpec)

/-- ITS FALSE NEIGHBOUR: 'it returns false'. Refute it at one input. -/
def fnExactSideOrderWrong : ChangeSpec := { name := "fnExactSideOrder", fn := fun _ => fun
  | [d] => { results := [.lit (.bool false)], args := [d] }
  | _ => none }
def FnExactSideOrderWrongFalsely : Prop := fnExactSideOrderRow.holds Try.pinned (OpenSpec.ofChange fnExactSideOrderWrong)

/-- 'laws.FnExactPlaneLines': WHATEVER THE INPUT: true; the input reads as it did. -/
def fnExactPlaneLinesSpec : ChangeSpec := { name := "fnExactPlaneLines", fn := fun _ => fun
  | [d] => { results := [.lit (.bool true)], args := [d] }
  | _ => none }
def fnExactPlaneLinesRow : OpenClaim := { program := "ytbhnkjclemeolaa", sum := "f9965e05fe9166dccfc4df95329317db1ba391b2e0a13c306683ddad9f81e95d", func := "loop.example/ordersthatbranch/laws.FnExactPlaneLines", spec := "fnExactPlaneLines", unfollowed := true, recurses := true, apart := false }
def FnExactPlaneLinesSaid : Prop := fnExactPlaneLinesRow.holds Try.pinned (OpenSpec.ofChange fnExactPlaneLinesSpec)

/-- ITS FALSE NEIGHBOUR: 'it returns false'. Refute it at one input. -/
def fnExactPlaneLinesWrong : ChangeSpec := { name := "fnExactPlaneLines", fn := fun _ => fun
  | [d] => { results := [.lit (.bool false)], args := [d] }
  | _ => none }
def FnExactPlaneLinesWrongFalsely : Prop := fnExactPlaneLinesRow.holds Try.pinned (OpenSpec.ofChange fnExactPlaneLinesWrong)

/-- 'laws.FnExactFewestLines': WHATEVER THE INPUT: true; the input reads as it did. -/
def fnExactFewestLinesSpec : ChangeSpec := { name := "fnExactFewestLines", fn := fun _ => fun
  | [d] => { results := [.lit (.bool true)], args := [d] }
  | _ => none }
def fnExactFewestLinesRow : OpenClaim := { program := "ytbhnkjclemeolaa", sum := "f9965e05fe9166dccfc4df95329317db1ba391b2e0a13c306683ddad9f81e95d", func := "loop.example/ordersthatbranch/laws.FnExactFewestLines", spec := "fnExactFewestLines", unfollowed := true, recurses := true, apart := false }
def FnExactFewestLinesSaid : Prop := fnExactFewestLinesRow.holds Try.pinned (OpenSpec.ofChange fnExactFewestLinesSpec)

/-- ITS FALSE NEIGHBOUR: 'it returns false'. Refute it at one input. -/
def fnExactFewestLinesWrong : ChangeSpec := { name := "fnExactFewestLines", fn := fun _ => fun
  | [d] => { results := [.lit (.bool false)], args := [d] }
  | _ => none }
def FnExactFewestLinesWrongFalsely : Prop := fnExactFewestLinesRow.holds Try.pinned (OpenSpec.ofChange fnExactFewestLinesWrong)

/-- 'laws.FnLinesOrder': WHATEVER THE INPUT: true; the input reads as it did. -/
def fnLinesOrderSpec : ChangeSpec := { name := "fnLinesOrder", fn := fun _ => fun
  | [d] => { results := [.lit (.bool true)], args := [d] }
  | _ => none }
def fnLinesOrderRow : OpenClaim := { program := "ytbhnkjclemeolaa", sum := "f9965e05fe9166dccfc4df95329317db1ba391b2e0a13c306683ddad9f81e95d", func := "loop.example/ordersthatbranch/laws.FnLinesOrder", spec := "fnLinesOrder", unfollowed := true, recurses := true, apart := false }
def FnLinesOrderSaid : Prop := fnLinesOrderRow.holds Try.pinned (OpenSpec.ofChange fnLinesOrderSpec)

/-- ITS FALSE NEIGHBOUR: 'it returns false'. Refute it at one input. -/
def fnLinesOrderWrong : ChangeSpec := { name := "fnLinesOrder", fn := fun _ => fun
  | [d] => { results := [.lit (.bool false)], args := [d] }
  | _ => none }
def FnLinesOrderWrongFalsely : Prop := fnLinesOrderRow.holds Try.pinned (OpenSpec.ofChange fnLinesOrderWrong)

/-- 'laws.FnSideOrder': WHATEVER THE INPUT: true; the input reads as it did. -/
def fnSideOrderSpec : ChangeSpec := { name := "fnSideOrder", fn := fun _ => fun
  | [d] => { results := [.lit (.bool true)], args := [d] }
  | _ => none }
def fnSideOrderRow : OpenClaim := { program := "ytbhnkjclemeolaa", sum := "f9965e05fe9166dccfc4df95329317db1ba391b2e0a13c306683ddad9f81e95d", func := "loop.example/ordersthatbranch/laws.FnSideOrder", spec := "fnSideOrder", unfollowed := true, recurses := true, apart := false }
def FnSideOrderSaid : Prop := fnSideOrderRow.holds Try.pinned (OpenSpec.ofChange fnSideOrderSpec)

/-- ITS FALSE NEIGHBOUR: 'it returns false'. Refute it at one input. -/
def fnSideOrderWrong : ChangeSpec := { name := "fnSideOrder", fn := fun _ => fun
  | [d] => { results := [.lit (.bool false)], args := [d] }
  | _ => none }
def FnSideOrderWrongFalsely : Prop := fnSideOrderRow.holds Try.pinned (OpenSpec.ofChange fnSideOrderWrong)

/-- 'laws.FnPlaneLines': WHATEVER THE INPUT: true; the input reads as it did. -/
def fnPlaneLinesSpec : ChangeSpec := { name := "fnPlaneLines", fn := fun _ => fun
  | [d] => { results := [.lit (.bool true)], args := [d] }
  | _ => none }
def fnPlaneLinesRow : OpenClaim := { program := "ytbhnkjclemeolaa", sum := "f9965e05fe9166dccfc4df95329317db1ba391b2e0a13c306683ddad9f81e95d", func := "loop.example/ordersthatbranch/laws.FnPlaneLines", spec := "fnPlaneLines", unfollowed := true, recurses := true, apart := false }
def FnPlaneLinesSaid : Prop := fnPlaneLinesRow.holds Try.pinned (OpenSpec.ofChange fnPlaneLinesSpec)

/-- ITS FALSE NEIGHBOUR: 'it returns false'. Refute it at one input. -/
def fnPlaneLinesWrong : ChangeSpec := { name := "fnPlaneLines", fn := fun _ => fun
  | [d] => { results := [.lit (.bool false)], args := [d] }
  | _ => none }
def FnPlaneLinesWrongFalsely : Prop := fnPlaneLinesRow.holds Try.pinned (OpenSpec.ofChange fnPlaneLinesWrong)

/-- 'laws.FnFewestLines': WHATEVER THE INPUT: true; the input reads as it did. -/
def fnFewestLinesSpec : ChangeSpec := { name := "fnFewestLines", fn := fun _ => fun
  | [d] => { results := [.lit (.bool true)], args := [d] }
  | _ => none }
def fnFewestLinesRow : OpenClaim := { program := "ytbhnkjclemeolaa", sum := "f9965e05fe9166dccfc4df95329317db1ba391b2e0a13c306683ddad9f81e95d", func := "loop.example/ordersthatbranch/laws.FnFewestLines", spec := "fnFewestLines", unfollowed := true, recurses := true, apart := false }
def FnFewestLinesSaid : Prop := fnFewestLinesRow.holds Try.pinned (OpenSpec.ofChange fnFewestLinesSpec)

/-- ITS FALSE NEIGHBOUR: 'it returns false'. Refute it at one input. -/
def fnFewestLinesWrong : ChangeSpec := { name := "fnFewestLines", fn := fun _ => fun
  | [d] => { results := [.lit (.bool false)], args := [d] }
  | _ => none }
def FnFewestLinesWrongFalsely : Prop := fnFewestLinesRow.holds Try.pinned (OpenSpec.ofChange fnFewestLinesWrong)

/- THE SECOND FORM. 'bulk': how many values and letters a reading holds, each counted each time it is reached (what is shared counts as often as it is met; a slice's spare places count too). A statement '..UptoSaid' is the law's where the arguments, and the package variables that the reading takes, are together of bulk at most 1048576: NARROWER than '..Said'. Prove '..Said' where nothing that the law and all that it calls make is longer than what came in: it says more and counts as full. Else prove '..UptoSaid'. A law counts once. -/
mutual
def uptoBulk {H : Type} : DataW H → Nat
  | .lit (.string bytes) => bytes.length + 1
  | .lit _ => 1
  | .nil => 1
  | .ptr d => uptoBulk d + 1
  | .slice elems spare => uptoBulkAll elems + uptoBulkAll spare + 1
  | .agg parts => uptoBulkAll parts + 1
  | .iface _ d => uptoBulk d + 1
  | .map entries => uptoBulkEntries entries + 1
  | .held _ => 1
def uptoBulkAll {H : Type} : List (DataW H) → Nat
  | [] => 0
  | d :: r => uptoBulk d + uptoBulkAll r
def uptoBulkEntries {H : Type} : List (Lit × DataW H) → Nat
  | [] => 0
  | x :: r => uptoBulkEntry x + uptoBulkEntries r
def uptoBulkEntry {H : Type} : Lit × DataW H → Nat
  | (.string bytes, d) => bytes.length + uptoBulk d + 1
  | (_, d) => uptoBulk d + 1
 end
def uptoSmall : (H : Type) → List (DataW H) → Bool := fun _ ds => decide (uptoBulkAll ds ≤ 1048576)
def OpenSpec.upto (s : _root_.Go.ChangeSpec) : _root_.Go.OpenSpec := { _root_.Go.OpenSpec.ofChange s with cond := some uptoSmall }

/-- 'laws.FnExactLinesOrder', WHERE WHAT IT READS IS OF BULK AT MOST 1048576: true; the input reads as it did. -/
def fnExactLinesOrderUptoRow : OpenClaim := { program := "ytbhnkjclemeolaa", sum := "f9965e05fe9166dccfc4df95329317db1ba391b2e0a13c306683ddad9f81e95d", func := "loop.example/ordersthatbranch/laws.FnExactLinesOrder", spec := "fnExactLinesOrder", unfollowed := true, recurses := true, apart := false, narrowed := true }
def FnExactLinesOrderUptoSaid : Prop := fnExactLinesOrderUptoRow.holds Try.pinned (OpenSpec.upto fnExactLinesOrderSpec)

/-- 'laws.FnExactSideOrder', WHERE WHAT IT READS IS OF BULK AT MOST 1048576: true; the input reads as it did. -/
def fnExactSideOrderUptoRow : OpenClaim := { program := "ytbhnkjclemeolaa", sum := "f9965e05fe9166dccfc4df95329317db1ba391b2e0a13c306683ddad9f81e95d", func := "loop.example/ordersthatbranch/laws.FnExactSideOrder", spec := "fnExactSideOrder", unfollowed := true, recurses := true, apart := false, narrowed := true }
def FnExactSideOrderUptoSaid : Prop := fnExactSideOrderUptoRow.holds Try.pinned (OpenSpec.upto fnExactSideOrderSpec)

/-- 'laws.FnExactPlaneLines', WHERE WHAT IT READS IS OF BULK AT MOST 1048576: true; the input reads as it did. -/
def fnExactPlaneLinesUptoRow : OpenClaim := { program := "ytbhnkjclemeolaa", sum := "f9965e05fe9166dccfc4df95329317db1ba391b2e0a13c306683ddad9f81e95d", func := "loop.example/ordersthatbranch/laws.FnExactPlaneLines", spec := "fnExactPlaneLines", unfollowed := true, recurses := true, apart := false, narrowed := true }
def FnExactPlaneLinesUptoSaid : Prop := fnExactPlaneLinesUptoRow.holds Try.pinned (OpenSpec.upto fnExactPlaneLinesSpec)

/-- 'laws.FnExactFewestLines', WHERE WHAT IT READS IS OF BULK AT MOST 1048576: true; the input reads as it did. -/
def fnExactFewestLinesUptoRow : OpenClaim := { program := "ytbhnkjclemeolaa", sum := "f9965e05fe9166dccfc4df95329317db1ba391b2e0a13c306683ddad9f81e95d", func := "loop.example/ordersthatbranch/laws.FnExactFewestLines", spec := "fnExactFewestLines", unfollowed := true, recurses := true, apart := false, narrowed := true }
def FnExactFewestLinesUptoSaid : Prop := fnExactFewestLinesUptoRow.holds Try.pinned (OpenSpec.upto fnExactFewestLinesSpec)

/-- 'laws.FnLinesOrder', WHERE WHAT IT READS IS OF BULK AT MOST 1048576: true; the input reads as it did. -/
def fnLinesOrderUptoRow : OpenClaim := { program := "ytbhnkjclemeolaa", sum := "f9965e05fe9166dccfc4df95329317db1ba391b2e0a13c306683ddad9f81e95d", func := "loop.example/ordersthatbranch/laws.FnLinesOrder", spec := "fnLinesOrder", unfollowed := true, recurses := true, apart := false, narrowed := true }
def FnLinesOrderUptoSaid : Prop := fnLinesOrderUptoRow.holds Try.pinned (OpenSpec.upto fnLinesOrderSpec)

/-- 'laws.FnSideOrder', WHERE WHAT IT READS IS OF BULK AT MOST 1048576: true; the input reads as it did. -/
def fnSideOrderUptoRow : OpenClaim := { program := "ytbhnkjclemeolaa", sum := "f9965e05fe9166dccfc4df95329317db1ba391b2e0a13c306683ddad9f81e95d", func := "loop.example/ordersthatbranch/laws.FnSideOrder", spec := "fnSideOrder", unfollowed := true, recurses := true, apart := false, narrowed := true }
def FnSideOrderUptoSaid : Prop := fnSideOrderUptoRow.holds Try.pinned (OpenSpec.upto fnSideOrderSpec)

/-- 'laws.FnPlaneLines', WHERE WHAT IT READS IS OF BULK AT MOST 1048576: true; the input reads as it did. -/
def fnPlaneLinesUptoRow : OpenClaim := { program := "ytbhnkjclemeolaa", sum := "f9965e05fe9166dccfc4df95329317db1ba391b2e0a13c306683ddad9f81e95d", func := "loop.example/ordersthatbranch/laws.FnPlaneLines", spec := "fnPlaneLines", unfollowed := true, recurses := true, apart := false, narrowed := true }
def FnPlaneLinesUptoSaid : Prop := fnPlaneLinesUptoRow.holds Try.pinned (OpenSpec.upto fnPlaneLinesSpec)

/-- 'laws.FnFewestLines', WHERE WHAT IT READS IS OF BULK AT MOST 1048576: true; the input reads as it did. -/
def fnFewestLinesUptoRow : OpenClaim := { program := "ytbhnkjclemeolaa", sum := "f9965e05fe9166dccfc4df95329317db1ba391b2e0a13c306683ddad9f81e95d", func := "loop.example/ordersthatbranch/laws.FnFewestLines", spec := "fnFewestLines", unfollowed := true, recurses := true, apart := false, narrowed := true }
def FnFewestLinesUptoSaid : Prop := fnFewestLinesUptoRow.holds Try.pinned (OpenSpec.upto fnFewestLinesSpec)

end Rows
end Go.Proofs.Ytbhnkjclemeolaa
