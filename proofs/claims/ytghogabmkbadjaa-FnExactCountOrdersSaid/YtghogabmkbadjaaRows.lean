/-
  No cell of these rows narrows 'for every input' (looked for: loops, veiled, ifaces, maps, wideKeys, modest, calm, conditions, laid).
  DERIVED. THE GIVEN ROWS OF THIS SEAT. 11 by the template 'for every input the law returns true; each argument reads behind the call as it read before'; 0 by the template 'total and deterministic' (their statements: YtghogabmkbadjaaTotals.lean).
  GIVEN WITH THE SEED: the statements are not yours to turn. If you find one false, say at which input.
  Laid BY PROGRAM, IN A SANDBOX (cutbox-rows.mjs): the forced cells as the released guide's own fill.sh prints them over the translation 398af3bc8f9c59ca… (all of the seat's roots in one cut). By AI agents, Wed Nov 11 2026. No macro, syntax, notation, axiom, sorry.
-/
import Derived.Test.YtghogabmkbadjaaChecked
import GoSem.Claim
import GoSem.ClaimJoined
import GoSem.ClaimMapViews
import Derived.JoinedTies
import Derived.KernelRfl
namespace Go.Proofs.Ytghogabmkbadjaa
/- THE CELL 'sum', in the pinned program and in every row, IS THE sha256 OF THE DUMP (.gsa) THAT YtghogabmkbadjaaProg.lean LOADS. Nothing in Lean hashes anything: it is a label: what it is worth is what the hold of that sum in a sandbox is worth. -/
noncomputable def Try.pinned : Pinned := { name := "ytghogabmkbadjaa", sum := "398af3bc8f9c59caec92a862b50d5087b475ab43ad13305aee17d3c53cd8d8ae", checked := Try.checked }
namespace Rows
def none {H : Type} : Left H := { results := [], args := [] }

/-- 'laws.FnExactRenumbered': WHATEVER THE INPUT: true; the input reads as it did. -/
def fnExactRenumberedSpec : ChangeSpec := { name := "fnExactRenumbered", fn := fun _ => fun
  | [d1, d2] => { results := [.lit (.bool true)], args := [d1, d2] }
  | _ => none }
def fnExactRenumberedRow : OpenClaim := { program := "ytghogabmkbadjaa", sum := "398af3bc8f9c59caec92a862b50d5087b475ab43ad13305aee17d3c53cd8d8ae", func := "loop.example/ordersthatbranch/laws.FnExactRenumbered", spec := "fnExactRenumbered", unfollowed := true, recurses := true, apart := false }
def FnExactRenumberedSaid : Prop := fnExactRenumberedRow.holds Try.pinned (OpenSpec.ofChange fnExactRenumberedSpec)

/-- ITS FALSE NEIGHBOUR: 'it returns false'. Refute it at one input. -/
def fnExactRenumberedWrong : ChangeSpec := { name := "fnExactRenumbered", fn := fun _ => fun
  | [d1, d2] => { results := [.lit (.bool false)], args := [d1, d2] }
  | _ => none }
def FnExactRenumberedWrongFalsely : Prop := fnExactRenumberedRow.holds Try.pinned (OpenSpec.ofChange fnExactRenumberedWrong)

/-- 'laws.FnExactMapOrder': WHATEVER THE INPUT: true; the input reads as it did. -/
def fnExactMapOrderSpec : ChangeSpec := { name := "fnExactMapOrder", fn := fun _ => fun
  | [d1, d2] => { results := [.lit (.bool true)], args := [d1, d2] }
  | _ => none }
def fnExactMapOrderRow : OpenClaim := { program := "ytghogabmkbadjaa", sum := "398af3bc8f9c59caec92a862b50d5087b475ab43ad13305aee17d3c53cd8d8ae", func := "loop.example/ordersthatbranch/laws.FnExactMapOrder", spec := "fnExactMapOrder", unfollowed := true, recurses := true, apart := false }
def FnExactMapOrderSaid : Prop := fnExactMapOrderRow.holds Try.pinned (OpenSpec.ofChange fnExactMapOrderSpec)

/-- ITS FALSE NEIGHBOUR: 'it returns false'. Refute it at one input. -/
def fnExactMapOrderWrong : ChangeSpec := { name := "fnExactMapOrder", fn := fun _ => fun
  | [d1, d2] => { results := [.lit (.bool false)], args := [d1, d2] }
  | _ => none }
def FnExactMapOrderWrongFalsely : Prop := fnExactMapOrderRow.holds Try.pinned (OpenSpec.ofChange fnExactMapOrderWrong)

/-- 'laws.FnExactCanonOf': WHATEVER THE INPUT: true; the input reads as it did. -/
def fnExactCanonOfSpec : ChangeSpec := { name := "fnExactCanonOf", fn := fun _ => fun
  | [d] => { results := [.lit (.bool true)], args := [d] }
  | _ => none }
def fnExactCanonOfRow : OpenClaim := { program := "ytghogabmkbadjaa", sum := "398af3bc8f9c59caec92a862b50d5087b475ab43ad13305aee17d3c53cd8d8ae", func := "loop.example/ordersthatbranch/laws.FnExactCanonOf", spec := "fnExactCanonOf", unfollowed := true, recurses := true, apart := false }
def FnExactCanonOfSaid : Prop := fnExactCanonOfRow.holds Try.pinned (OpenSpec.ofChange fnExactCanonOfSpec)

/-- ITS FALSE NEIGHBOUR: 'it returns false'. Refute it at one input. -/
def fnExactCanonOfWrong : ChangeSpec := { name := "fnExactCanonOf", fn := fun _ => fun
  | [d] => { results := [.lit (.bool false)], args := [d] }
  | _ => none }
def FnExactCanonOfWrongFalsely : Prop := fnExactCanonOfRow.holds Try.pinned (OpenSpec.ofChange fnExactCanonOfWrong)

/-- 'laws.FnExactSelfMaps': WHATEVER THE INPUT: true; the input reads as it did. -/
def fnExactSelfMapsSpec : ChangeSpec := { name := "fnExactSelfMaps", fn := fun _ => fun
  | [d] => { results := [.lit (.bool true)], args := [d] }
  | _ => none }
def fnExactSelfMapsRow : OpenClaim := { program := "ytghogabmkbadjaa", sum := "398af3bc8f9c59caec92a862b50d5087b475ab43ad13305aee17d3c53cd8d8ae", func := "loop.example/ordersthatbranch/laws.FnExactSelfMaps", spec := "fnExactSelfMaps", unfollowed := true, recurses := true, apart := false }
def FnExactSelfMapsSaid : Prop := fnExactSelfMapsRow.holds Try.pinned (OpenSpec.ofChange fnExactSelfMapsSpec)

/-- ITS FALSE NEIGHBOUR: 'it returns false'. Refute it at one input. -/
def fnExactSelfMapsWrong : ChangeSpec := { name := "fnExactSelfMaps", fn := fun _ => fun
  | [d] => { results := [.lit (.bool false)], args := [d] }
  | _ => none }
def FnExactSelfMapsWrongFalsely : Prop := fnExactSelfMapsRow.holds Try.pinned (OpenSpec.ofChange fnExactSelfMapsWrong)

/-- 'laws.FnExactShapesOf': WHATEVER THE INPUT: true; the input reads as it did. -/
def fnExactShapesOfSpec : ChangeSpec := { name := "fnExactShapesOf", fn := fun _ => fun
  | [d] => { results := [.lit (.bool true)], args := [d] }
  | _ => none }
def fnExactShapesOfRow : OpenClaim := { program := "ytghogabmkbadjaa", sum := "398af3bc8f9c59caec92a862b50d5087b475ab43ad13305aee17d3c53cd8d8ae", func := "loop.example/ordersthatbranch/laws.FnExactShapesOf", spec := "fnExactShapesOf", unfollowed := true, recurses := true, apart := false }
def FnExactShapesOfSaid : Prop := fnExactShapesOfRow.holds Try.pinned (OpenSpec.ofChange fnExactShapesOfSpec)

/-- ITS FALSE NEIGHBOUR: 'it returns false'. Refute it at one input. -/
def fnExactShapesOfWrong : ChangeSpec := { name := "fnExactShapesOf", fn := fun _ => fun
  | [d] => { results := [.lit (.bool false)], args := [d] }
  | _ => none }
def FnExactShapesOfWrongFalsely : Prop := fnExactShapesOfRow.holds Try.pinned (OpenSpec.ofChange fnExactShapesOfWrong)

/-- 'laws.FnExactCountOrders': WHATEVER THE INPUT: true; the input reads as it did. -/
def fnExactCountOrdersSpec : ChangeSpec := { name := "fnExactCountOrders", fn := fun _ => fun
  | [d] => { results := [.lit (.bool true)], args := [d] }
  | _ => none }
def fnExactCountOrdersRow : OpenClaim := { program := "ytghogabmkbadjaa", sum := "398af3bc8f9c59caec92a862b50d5087b475ab43ad13305aee17d3c53cd8d8ae", func := "loop.example/ordersthatbranch/laws.FnExactCountOrders", spec := "fnExactCountOrders", unfollowed := true, recurses := true, apart := false }
def FnExactCountOrdersSaid : Prop := fnExactCountOrdersRow.holds Try.pinned (OpenSpec.ofChange fnExactCountOrdersSpec)

/-- ITS FALSE NEIGHBOUR: 'it returns false'. Refute it at one input. -/
def fnExactCountOrdersWrong : ChangeSpec := { name := "fnExactCountOrders", fn := fun _ => fun
  | [d] => { results := [.lit (.bool false)], args := [d] }
  | _ => none }
def FnExactCountOrdersWrongFalsely : Prop := fnExactCountOrdersRow.holds Try.pinned (OpenSpec.ofChange fnExactCountOrdersWrong)

/-- 'laws.FnMapOrder': WHATEVER THE INPUT: true; the input reads as it did. -/
def fnMapOrderSpec : ChangeSpec := { name := "fnMapOrder", fn := fun _ => fun
  | [d] => { results := [.lit (.bool true)], args := [d] }
  | _ => none }
def fnMapOrderRow : OpenClaim := { program := "ytghogabmkbadjaa", sum := "398af3bc8f9c59caec92a862b50d5087b475ab43ad13305aee17d3c53cd8d8ae", func := "loop.example/ordersthatbranch/laws.FnMapOrder", spec := "fnMapOrder", unfollowed := true, recurses := true, apart := false }
def FnMapOrderSaid : Prop := fnMapOrderRow.holds Try.pinned (OpenSpec.ofChange fnMapOrderSpec)

/-- ITS FALSE NEIGHBOUR: 'it returns false'. Refute it at one input. -/
def fnMapOrderWrong : ChangeSpec := { name := "fnMapOrder", fn := fun _ => fun
  | [d] => { results := [.lit (.bool false)], args := [d] }
  | _ => none }
def FnMapOrderWrongFalsely : Prop := fnMapOrderRow.holds Try.pinned (OpenSpec.ofChange fnMapOrderWrong)

/-- 'laws.FnCanonOf': WHATEVER THE INPUT: true; the input reads as it did. -/
def fnCanonOfSpec : ChangeSpec := { name := "fnCanonOf", fn := fun _ => fun
  | [d] => { results := [.lit (.bool true)], args := [d] }
  | _ => none }
def fnCanonOfRow : OpenClaim := { program := "ytghogabmkbadjaa", sum := "398af3bc8f9c59caec92a862b50d5087b475ab43ad13305aee17d3c53cd8d8ae", func := "loop.example/ordersthatbranch/laws.FnCanonOf", spec := "fnCanonOf", unfollowed := true, recurses := true, apart := false }
def FnCanonOfSaid : Prop := fnCanonOfRow.holds Try.pinned (OpenSpec.ofChange fnCanonOfSpec)

/-- ITS FALSE NEIGHBOUR: 'it returns false'. Refute it at one input. -/
def fnCanonOfWrong : ChangeSpec := { name := "fnCanonOf", fn := fun _ => fun
  | [d] => { results := [.lit (.bool false)], args := [d] }
  | _ => none }
def FnCanonOfWrongFalsely : Prop := fnCanonOfRow.holds Try.pinned (OpenSpec.ofChange fnCanonOfWrong)

/-- 'laws.FnSelfMaps': WHATEVER THE INPUT: true; the input reads as it did. -/
def fnSelfMapsSpec : ChangeSpec := { name := "fnSelfMaps", fn := fun _ => fun
  | [d] => { results := [.lit (.bool true)], args := [d] }
  | _ => none }
def fnSelfMapsRow : OpenClaim := { program := "ytghogabmkbadjaa", sum := "398af3bc8f9c59caec92a862b50d5087b475ab43ad13305aee17d3c53cd8d8ae", func := "loop.example/ordersthatbranch/laws.FnSelfMaps", spec := "fnSelfMaps", unfollowed := true, recurses := true, apart := false }
def FnSelfMapsSaid : Prop := fnSelfMapsRow.holds Try.pinned (OpenSpec.ofChange fnSelfMapsSpec)

/-- ITS FALSE NEIGHBOUR: 'it returns false'. Refute it at one input. -/
def fnSelfMapsWrong : ChangeSpec := { name := "fnSelfMaps", fn := fun _ => fun
  | [d] => { results := [.lit (.bool false)], args := [d] }
  | _ => none }
def FnSelfMapsWrongFalsely : Prop := fnSelfMapsRow.holds Try.pinned (OpenSpec.ofChange fnSelfMapsWrong)

/-- 'laws.FnShapesOf': WHATEVER THE INPUT: true; the input reads as it did. -/
def fnShapesOfSpec : ChangeSpec := { name := "fnShapesOf", fn := fun _ => fun
  | [d] => { results := [.lit (.bool true)], args := [d] }
  | _ => none }
def fnShapesOfRow : OpenClaim := { program := "ytghogabmkbadjaa", sum := "398af3bc8f9c59caec92a862b50d5087b475ab43ad13305aee17d3c53cd8d8ae", func := "loop.example/ordersthatbranch/laws.FnShapesOf", spec := "fnShapesOf", unfollowed := true, recurses := true, apart := false }
def FnShapesOfSaid : Prop := fnShapesOfRow.holds Try.pinned (OpenSpec.ofChange fnShapesOfSpec)

/-- ITS FALSE NEIGHBOUR: 'it returns false'. Refute it at one input. -/
def fnShapesOfWrong : ChangeSpec := { name := "fnShapesOf", fn := fun _ => fun
  | [d] => { results := [.lit (.bool false)], args := [d] }
  | _ => none }
def FnShapesOfWrongFalsely : Prop := fnShapesOfRow.holds Try.pinned (OpenSpec.ofChange fnShapesOfWrong)

/-- 'laws.FnCountOrders': WHATEVER THE INPUT: true; the input reads as it did. -/
def fnCountOrdersSpec : ChangeSpec := { name := "fnCountOrders", fn := fun _ => fun
  | [d] => { results := [.lit (.bool true)], args := [d] }
  | _ => none }
def fnCountOrdersRow : OpenClaim := { program := "ytghogabmkbadjaa", sum := "398af3bc8f9c59caec92a862b50d5087b475ab43ad13305aee17d3c53cd8d8ae", func := "loop.example/ordersthatbranch/laws.FnCountOrders", spec := "fnCountOrders", unfollowed := true, recurses := true, apart := false }
def FnCountOrdersSaid : Prop := fnCountOrdersRow.holds Try.pinned (OpenSpec.ofChange fnCountOrdersSpec)

/-- ITS FALSE NEIGHBOUR: 'it returns false'. Refute it at one input. -/
def fnCountOrdersWrong : ChangeSpec := { name := "fnCountOrders", fn := fun _ => fun
  | [d] => { results := [.lit (.bool false)], args := [d] }
  | _ => none }
def FnCountOrdersWrongFalsely : Prop := fnCountOrdersRow.holds Try.pinned (OpenSpec.ofChange fnCountOrdersWrong)

/- THE SECOND FORM. 'bulk': how many values and letters a reading holds, each counted each time it is reached (what is shared counts as often as it is met; a slice's spare places count too). A statement '..UptoSaid' is the law's where the arguments, and the package variables that the reading takes, are together of bulk at most 1048576: NARROWER than '..Said'. Prove '..Said' where nothing that the law and all that it calls make is longer than what came in: it says more and counts as full. Else prove '..UptoSaid'. A law counts once. -/
mutual
def uptoBulk {H : Type} : DataW H → Nat
  | .lit (.string bytes) => bytes.length + 1
  | .lit _ => 1
  | .nil => 1
  | .ptr d => uptoBulk d + 1
  | .slice elems spare => uptoBulkAll elems + uptoBulkAll spare + 1
  | .agg parts => uptoBulkAll parts + 1
  | .iface _ d => uptoBulk d + 1
  | .map entries => uptoBulkEntries entries + 1
  | .held _ => 1
def uptoBulkAll {H : Type} : List (DataW H) → Nat
  | [] => 0
  | d :: r => uptoBulk d + uptoBulkAll r
def uptoBulkEntries {H : Type} : List (Lit × DataW H) → Nat
  | [] => 0
  | x :: r => uptoBulkEntry x + uptoBulkEntries r
def uptoBulkEntry {H : Type} : Lit × DataW H → Nat
  | (.string bytes, d) => bytes.length + uptoBulk d + 1
  | (_, d) => uptoBulk d + 1
 end
def uptoSmall : (H : Type) → List (DataW H) → Bool := fun _ ds => decide (uptoBulkAll ds ≤ 1048576)
def OpenSpec.upto (s : _root_.Go.ChangeSpec) : _root_.Go.OpenSpec := { _root_.Go.OpenSpec.ofChange s with cond := some uptoSmall }

/-- 'laws.FnExactRenumbered', WHERE WHAT IT READS IS OF BULK AT MOST 1048576: true; the input reads as it did. -/
def fnExactRenumberedUptoRow : OpenClaim := { program := "ytghogabmkbadjaa", sum := "398af3bc8f9c59caec92a862b50d5087b475ab43ad13305aee17d3c53cd8d8ae", func := "loop.example/ordersthatbranch/laws.FnExactRenumbered", spec := "fnExactRenumbered", unfollowed := true, recurses := true, apart := false, narrowed := true }
def FnExactRenumberedUptoSaid : Prop := fnExactRenumberedUptoRow.holds Try.pinned (OpenSpec.upto fnExactRenumberedSpec)

/-- 'laws.FnExactMapOrder', WHERE WHAT IT READS IS OF BULK AT MOST 1048576: true; the input reads as it did. -/
def fnExactMapOrderUptoRow : OpenClaim := { program := "ytghogabmkbadjaa", sum := "398af3bc8f9c59caec92a862b50d5087b475ab43ad13305aee17d3c53cd8d8ae", func := "loop.example/ordersthatbranch/laws.FnExactMapOrder", spec := "fnExactMapOrder", unfollowed := true, recurses := true, apart := false, narrowed := true }
def FnExactMapOrderUptoSaid : Prop := fnExactMapOrderUptoRow.holds Try.pinned (OpenSpec.upto fnExactMapOrderSpec)

/-- 'laws.FnExactCanonOf', WHERE WHAT IT READS IS OF BULK AT MOST 1048576: true; the input reads as it did. -/
def fnExactCanonOfUptoRow : OpenClaim := { program := "ytghogabmkbadjaa", sum := "398af3bc8f9c59caec92a862b50d5087b475ab43ad13305aee17d3c53cd8d8ae", func := "loop.example/ordersthatbranch/laws.FnExactCanonOf", spec := "fnExactCanonOf", unfollowed := true, recurses := true, apart := false, narrowed := true }
def FnExactCanonOfUptoSaid : Prop := fnExactCanonOfUptoRow.holds Try.pinned (OpenSpec.upto fnExactCanonOfSpec)

/-- 'laws.FnExactSelfMaps', WHERE WHAT IT READS IS OF BULK AT MOST 1048576: true; the input reads as it did. -/
def fnExactSelfMapsUptoRow : OpenClaim := { program := "ytghogabmkbadjaa", sum := "398af3bc8f9c59caec92a862b50d5087b475ab43ad13305aee17d3c53cd8d8ae", func := "loop.example/ordersthatbranch/laws.FnExactSelfMaps", spec := "fnExactSelfMaps", unfollowed := true, recurses := true, apart := false, narrowed := true }
def FnExactSelfMapsUptoSaid : Prop := fnExactSelfMapsUptoRow.holds Try.pinned (OpenSpec.upto fnExactSelfMapsSpec)

/-- 'laws.FnExactShapesOf', WHERE WHAT IT READS IS OF BULK AT MOST 1048576: true; the input reads as it did. -/
def fnExactShapesOfUptoRow : OpenClaim := { program := "ytghogabmkbadjaa", sum := "398af3bc8f9c59caec92a862b50d5087b475ab43ad13305aee17d3c53cd8d8ae", func := "loop.example/ordersthatbranch/laws.FnExactShapesOf", spec := "fnExactShapesOf", unfollowed := true, recurses := true, apart := false, narrowed := true }
def FnExactShapesOfUptoSaid : Prop := fnExactShapesOfUptoRow.holds Try.pinned (OpenSpec.upto fnExactShapesOfSpec)

/-- 'laws.FnExactCountOrders', WHERE WHAT IT READS IS OF BULK AT MOST 1048576: true; the input reads as it did. -/
def fnExactCountOrdersUptoRow : OpenClaim := { program := "ytghogabmkbadjaa", sum := "398af3bc8f9c59caec92a862b50d5087b475ab43ad13305aee17d3c53cd8d8ae", func := "loop.example/ordersthatbranch/laws.FnExactCountOrders", spec := "fnExactCountOrders", unfollowed := true, recurses := true, apart := false, narrowed := true }
def FnExactCountOrdersUptoSaid : Prop := fnExactCountOrdersUptoRow.holds Try.pinned (OpenSpec.upto fnExactCountOrdersSpec)

/-- 'laws.FnMapOrder', WHERE WHAT IT READS IS OF BULK AT MOST 1048576: true; the input reads as it did. -/
def fnMapOrderUptoRow : OpenClaim := { program := "ytghogabmkbadjaa", sum := "398af3bc8f9c59caec92a862b50d5087b475ab43ad13305aee17d3c53cd8d8ae", func := "loop.example/ordersthatbranch/laws.FnMapOrder", spec := "fnMapOrder", unfollowed := true, recurses := true, apart := false, narrowed := true }
def FnMapOrderUptoSaid : Prop := fnMapOrderUptoRow.holds Try.pinned (OpenSpec.upto fnMapOrderSpec)

/-- 'laws.FnCanonOf', WHERE WHAT IT READS IS OF BULK AT MOST 1048576: true; the input reads as it did. -/
def fnCanonOfUptoRow : OpenClaim := { program := "ytghogabmkbadjaa", sum := "398af3bc8f9c59caec92a862b50d5087b475ab43ad13305aee17d3c53cd8d8ae", func := "loop.example/ordersthatbranch/laws.FnCanonOf", spec := "fnCanonOf", unfollowed := true, recurses := true, apart := false, narrowed := true }
def FnCanonOfUptoSaid : Prop := fnCanonOfUptoRow.holds Try.pinned (OpenSpec.upto fnCanonOfSpec)

/-- 'laws.FnSelfMaps', WHERE WHAT IT READS IS OF BULK AT MOST 1048576: true; the input reads as it did. -/
def fnSelfMapsUptoRow : OpenClaim := { program := "ytghogabmkbadjaa", sum := "398af3bc8f9c59caec92a862b50d5087b475ab43ad13305aee17d3c53cd8d8ae", func := "loop.example/ordersthatbranch/laws.FnSelfMaps", spec := "fnSelfMaps", unfollowed := true, recurses := true, apart := false, narrowed := true }
def FnSelfMapsUptoSaid : Prop := fnSelfMapsUptoRow.holds Try.pinned (OpenSpec.upto fnSelfMapsSpec)

/-- 'laws.FnShapesOf', WHERE WHAT IT READS IS OF BULK AT MOST 1048576: true; the input reads as it did. -/
def fnShapesOfUptoRow : OpenClaim := { program := "ytghogabmkbadjaa", sum := "398af3bc8f9c59caec92a862b50d5087b475ab43ad13305aee17d3c53cd8d8ae", func := "loop.example/ordersthatbranch/laws.FnShapesOf", spec := "fnShapesOf", unfollowed := true, recurses := true, apart := false, narrowed := true }
def FnShapesOfUptoSaid : Prop := fnShapesOfUptoRow.holds Try.pinned (OpenSpec.upto fnShapesOfSpec)

/-- 'laws.FnCountOrders', WHERE WHAT IT READS IS OF BULK AT MOST 1048576: true; the input reads as it did. -/
def fnCountOrdersUptoRow : OpenClaim := { program := "ytghogabmkbadjaa", sum := "398af3bc8f9c59caec92a862b50d5087b475ab43ad13305aee17d3c53cd8d8ae", func := "loop.example/ordersthatbranch/laws.FnCountOrders", spec := "fnCountOrders", unfollowed := true, recurses := true, apart := false, narrowed := true }
def FnCountOrdersUptoSaid : Prop := fnCountOrdersUptoRow.holds Try.pinned (OpenSpec.upto fnCountOrdersSpec)

end Rows
end Go.Proofs.Ytghogabmkbadjaa
