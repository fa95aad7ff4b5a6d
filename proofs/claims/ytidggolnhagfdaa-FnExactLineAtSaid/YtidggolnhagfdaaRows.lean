/-
  No cell of these rows narrows 'for every input' (looked for: loops, veiled, ifaces, maps, wideKeys, modest, calm, conditions, laid).
  DERIVED. THE GIVEN ROWS OF THIS SEAT. 11 by the template 'for every input the law returns true; each argument reads behind the call as it read before'; 0 by the template 'total and deterministic' (their statements: YtidggolnhagfdaaTotals.lean).
  GIVEN WITH THE SEED: the statements are not yours to turn. If you find one false, say at which input.
  Laid BY PROGRAM, IN A SANDBOX (cutbox-rows.mjs): the forced cells as the released guide's own fill.sh prints them over the translation 39098cfb643417c3… (all of the seat's roots in one cut). By AI agents, Wed Nov 11 2026. No macro, syntax, notation, axiom, sorry.
-/
import Derived.Test.YtidggolnhagfdaaChecked
import GoSem.Claim
import GoSem.ClaimJoined
import GoSem.ClaimMapViews
import Derived.JoinedTies
import Derived.KernelRfl
namespace Go.Proofs.Ytidggolnhagfdaa
/- THE CELL 'sum', in the pinned program and in every row, IS THE sha256 OF THE DUMP (.gsa) THAT YtidggolnhagfdaaProg.lean LOADS. Nothing in Lean hashes anything: it is a label: what it is worth is what the hold of that sum in a sandbox is worth. -/
noncomputable def Try.pinned : Pinned := { name := "ytidggolnhagfdaa", sum := "39098cfb643417c3374a4e9fba237fa5064bc993a78f27bd3fb449d0b5b67d44", checked := Try.checked }
namespace Rows
def none {H : Type} : Left H := { results := [], args := [] }

/-- 'laws.FnExactIsIdeal': WHATEVER THE INPUT: true; the input reads as it did. -/
def fnExactIsIdealSpec : ChangeSpec := { name := "fnExactIsIdeal", fn := fun _ => fun
  | [d1, d2] => { results := [.lit (.bool true)], args := [d1, d2] }
  | _ => none }
def fnExactIsIdealRow : OpenClaim := { program := "ytidggolnhagfdaa", sum := "39098cfb643417c3374a4e9fba237fa5064bc993a78f27bd3fb449d0b5b67d44", func := "loop.example/ordersthatbranch/laws.FnExactIsIdeal", spec := "fnExactIsIdeal", unfollowed := true, recurses := true, apart := false }
def FnExactIsIdealSaid : Prop := fnExactIsIdealRow.holds Try.pinned (OpenSpec.ofChange fnExactIsIdealSpec)

/-- ITS FALSE NEIGHBOUR: 'it returns false'. Refute it at one input. -/
def fnExactIsIdealWrong : ChangeSpec := { name := "fnExactIsIdeal", fn := fun _ => fun
  | [d1, d2] => { results := [.lit (.bool false)], args := [d1, d2] }
  | _ => none }
def FnExactIsIdealWrongFalsely : Prop := fnExactIsIdealRow.holds Try.pinned (OpenSpec.ofChange fnExactIsIdealWrong)

/-- 'laws.FnExactBelowOf': WHATEVER THE INPUT: true; the input reads as it did. -/
def fnExactBelowOfSpec : ChangeSpec := { name := "fnExactBelowOf", fn := fun _ => fun
  | [d1, d2] => { results := [.lit (.bool true)], args := [d1, d2] }
  | _ => none }
def fnExactBelowOfRow : OpenClaim := { program := "ytidggolnhagfdaa", sum := "39098cfb643417c3374a4e9fba237fa5064bc993a78f27bd3fb449d0b5b67d44", func := "loop.example/ordersthatbranch/laws.FnExactBelowOf", spec := "fnExactBelowOf", unfollowed := true, recurses := true, apart := false }
def FnExactBelowOfSaid : Prop := fnExactBelowOfRow.holds Try.pinned (OpenSpec.ofChange fnExactBelowOfSpec)

/-- ITS FALSE NEIGHBOUR: 'it returns false'. Refute it at one input. -/
def fnExactBelowOfWrong : ChangeSpec := { name := "fnExactBelowOf", fn := fun _ => fun
  | [d1, d2] => { results := [.lit (.bool false)], args := [d1, d2] }
  | _ => none }
def FnExactBelowOfWrongFalsely : Prop := fnExactBelowOfRow.holds Try.pinned (OpenSpec.ofChange fnExactBelowOfWrong)

/-- 'laws.FnExactIdealsOf': WHATEVER THE INPUT: true; the input reads as it did. -/
def fnExactIdealsOfSpec : ChangeSpec := { name := "fnExactIdealsOf", fn := fun _ => fun
  | [d] => { results := [.lit (.bool true)], args := [d] }
  | _ => none }
def fnExactIdealsOfRow : OpenClaim := { program := "ytidggolnhagfdaa", sum := "39098cfb643417c3374a4e9fba237fa5064bc993a78f27bd3fb449d0b5b67d44", func := "loop.example/ordersthatbranch/laws.FnExactIdealsOf", spec := "fnExactIdealsOf", unfollowed := true, recurses := true, apart := false }
def FnExactIdealsOfSaid : Prop := fnExactIdealsOfRow.holds Try.pinned (OpenSpec.ofChange fnExactIdealsOfSpec)

/-- ITS FALSE NEIGHBOUR: 'it returns false'. Refute it at one input. -/
def fnExactIdealsOfWrong : ChangeSpec := { name := "fnExactIdealsOf", fn := fun _ => fun
  | [d] => { results := [.lit (.bool false)], args := [d] }
  | _ => none }
def FnExactIdealsOfWrongFalsely : Prop := fnExactIdealsOfRow.holds Try.pinned (OpenSpec.ofChange fnExactIdealsOfWrong)

/-- 'laws.FnExactNextIdeal': WHATEVER THE INPUT: true; the input reads as it did. -/
def fnExactNextIdealSpec : ChangeSpec := { name := "fnExactNextIdeal", fn := fun _ => fun
  | [d1, d2] => { results := [.lit (.bool true)], args := [d1, d2] }
  | _ => none }
def fnExactNextIdealRow : OpenClaim := { program := "ytidggolnhagfdaa", sum := "39098cfb643417c3374a4e9fba237fa5064bc993a78f27bd3fb449d0b5b67d44", func := "loop.example/ordersthatbranch/laws.FnExactNextIdeal", spec := "fnExactNextIdeal", unfollowed := true, recurses := true, apart := false }
def FnExactNextIdealSaid : Prop := fnExactNextIdealRow.holds Try.pinned (OpenSpec.ofChange fnExactNextIdealSpec)

/-- ITS FALSE NEIGHBOUR: 'it returns false'. Refute it at one input. -/
def fnExactNextIdealWrong : ChangeSpec := { name := "fnExactNextIdeal", fn := fun _ => fun
  | [d1, d2] => { results := [.lit (.bool false)], args := [d1, d2] }
  | _ => none }
def FnExactNextIdealWrongFalsely : Prop := fnExactNextIdealRow.holds Try.pinned (OpenSpec.ofChange fnExactNextIdealWrong)

/-- 'laws.FnTopsOf': WHATEVER THE INPUT: true; the input reads as it did. -/
def fnTopsOfSpec : ChangeSpec := { name := "fnTopsOf", fn := fun _ => fun
  | [d] => { results := [.lit (.bool true)], args := [d] }
  | _ => none }
def fnTopsOfRow : OpenClaim := { program := "ytidggolnhagfdaa", sum := "39098cfb643417c3374a4e9fba237fa5064bc993a78f27bd3fb449d0b5b67d44", func := "loop.example/ordersthatbranch/laws.FnTopsOf", spec := "fnTopsOf", unfollowed := true, recurses := true, apart := false }
def FnTopsOfSaid : Prop := fnTopsOfRow.holds Try.pinned (OpenSpec.ofChange fnTopsOfSpec)

/-- ITS FALSE NEIGHBOUR: 'it returns false'. Refute it at one input. -/
def fnTopsOfWrong : ChangeSpec := { name := "fnTopsOf", fn := fun _ => fun
  | [d] => { results := [.lit (.bool false)], args := [d] }
  | _ => none }
def FnTopsOfWrongFalsely : Prop := fnTopsOfRow.holds Try.pinned (OpenSpec.ofChange fnTopsOfWrong)

/-- 'laws.FnIsIdeal': WHATEVER THE INPUT: true; the input reads as it did. -/
def fnIsIdealSpec : ChangeSpec := { name := "fnIsIdeal", fn := fun _ => fun
  | [d] => { results := [.lit (.bool true)], args := [d] }
  | _ => none }
def fnIsIdealRow : OpenClaim := { program := "ytidggolnhagfdaa", sum := "39098cfb643417c3374a4e9fba237fa5064bc993a78f27bd3fb449d0b5b67d44", func := "loop.example/ordersthatbranch/laws.FnIsIdeal", spec := "fnIsIdeal", unfollowed := true, recurses := true, apart := false }
def FnIsIdealSaid : Prop := fnIsIdealRow.holds Try.pinned (OpenSpec.ofChange fnIsIdealSpec)

/-- ITS FALSE NEIGHBOUR: 'it returns false'. Refute it at one input. -/
def fnIsIdealWrong : ChangeSpec := { name := "fnIsIdeal", fn := fun _ => fun
  | [d] => { results := [.lit (.bool false)], args := [d] }
  | _ => none }
def FnIsIdealWrongFalsely : Prop := fnIsIdealRow.holds Try.pinned (OpenSpec.ofChange fnIsIdealWrong)

/-- 'laws.FnBelowOf': WHATEVER THE INPUT: true; the input reads as it did. -/
def fnBelowOfSpec : ChangeSpec := { name := "fnBelowOf", fn := fun _ => fun
  | [d] => { results := [.lit (.bool true)], args := [d] }
  | _ => none }
def fnBelowOfRow : OpenClaim := { program := "ytidggolnhagfdaa", sum := "39098cfb643417c3374a4e9fba237fa5064bc993a78f27bd3fb449d0b5b67d44", func := "loop.example/ordersthatbranch/laws.FnBelowOf", spec := "fnBelowOf", unfollowed := true, recurses := true, apart := false }
def FnBelowOfSaid : Prop := fnBelowOfRow.holds Try.pinned (OpenSpec.ofChange fnBelowOfSpec)

/-- ITS FALSE NEIGHBOUR: 'it returns false'. Refute it at one input. -/
def fnBelowOfWrong : ChangeSpec := { name := "fnBelowOf", fn := fun _ => fun
  | [d] => { results := [.lit (.bool false)], args := [d] }
  | _ => none }
def FnBelowOfWrongFalsely : Prop := fnBelowOfRow.holds Try.pinned (OpenSpec.ofChange fnBelowOfWrong)

/-- 'laws.FnNextIdeal': WHATEVER THE INPUT: true; the input reads as it did. -/
def fnNextIdealSpec : ChangeSpec := { name := "fnNextIdeal", fn := fun _ => fun
  | [d] => { results := [.lit (.bool true)], args := [d] }
  | _ => none }
def fnNextIdealRow : OpenClaim := { program := "ytidggolnhagfdaa", sum := "39098cfb643417c3374a4e9fba237fa5064bc993a78f27bd3fb449d0b5b67d44", func := "loop.example/ordersthatbranch/laws.FnNextIdeal", spec := "fnNextIdeal", unfollowed := true, recurses := true, apart := false }
def FnNextIdealSaid : Prop := fnNextIdealRow.holds Try.pinned (OpenSpec.ofChange fnNextIdealSpec)

/-- ITS FALSE NEIGHBOUR: 'it returns false'. Refute it at one input. -/
def fnNextIdealWrong : ChangeSpec := { name := "fnNextIdeal", fn := fun _ => fun
  | [d] => { results := [.lit (.bool false)], args := [d] }
  | _ => none }
def FnNextIdealWrongFalsely : Prop := fnNextIdealRow.holds Try.pinned (OpenSpec.ofChange fnNextIdealWrong)

/-- 'laws.FnExactCountLines': WHATEVER THE INPUT: true; the input reads as it did. -/
def fnExactCountLinesSpec : ChangeSpec := { name := "fnExactCountLines", fn := fun _ => fun
  | [d] => { results := [.lit (.bool true)], args := [d] }
  | _ => none }
def fnExactCountLinesRow : OpenClaim := { program := "ytidggolnhagfdaa", sum := "39098cfb643417c3374a4e9fba237fa5064bc993a78f27bd3fb449d0b5b67d44", func := "loop.example/ordersthatbranch/laws.FnExactCountLines", spec := "fnExactCountLines", unfollowed := true, recurses := true, apart := false }
def FnExactCountLinesSaid : Prop := fnExactCountLinesRow.holds Try.pinned (OpenSpec.ofChange fnExactCountLinesSpec)

/-- ITS FALSE NEIGHBOUR: 'it returns false'. Refute it at one input. -/
def fnExactCountLinesWrong : ChangeSpec := { name := "fnExactCountLines", fn := fun _ => fun
  | [d] => { results := [.lit (.bool false)], args := [d] }
  | _ => none }
def FnExactCountLinesWrongFalsely : Prop := fnExactCountLinesRow.holds Try.pinned (OpenSpec.ofChange fnExactCountLinesWrong)

/-- 'laws.FnExactLineRank': WHATEVER THE INPUT: true; the input reads as it did. -/
def fnExactLineRankSpec : ChangeSpec := { name := "fnExactLineRank", fn := fun _ => fun
  | [d1, d2] => { results := [.lit (.bool true)], args := [d1, d2] }
  | _ => none }
def fnExactLineRankRow : OpenClaim := { program := "ytidggolnhagfdaa", sum := "39098cfb643417c3374a4e9fba237fa5064bc993a78f27bd3fb449d0b5b67d44", func := "loop.example/ordersthatbranch/laws.FnExactLineRank", spec := "fnExactLineRank", unfollowed := true, recurses := true, apart := false }
def FnExactLineRankSaid : Prop := fnExactLineRankRow.holds Try.pinned (OpenSpec.ofChange fnExactLineRankSpec)

/-- ITS FALSE NEIGHBOUR: 'it returns false'. Refute it at one input. -/
def fnExactLineRankWrong : ChangeSpec := { name := "fnExactLineRank", fn := fun _ => fun
  | [d1, d2] => { results := [.lit (.bool false)], args := [d1, d2] }
  | _ => none }
def FnExactLineRankWrongFalsely : Prop := fnExactLineRankRow.holds Try.pinned (OpenSpec.ofChange fnExactLineRankWrong)

/-- 'laws.FnExactLineAt': WHATEVER THE INPUT: true; the input reads as it did. -/
def fnExactLineAtSpec : ChangeSpec := { name := "fnExactLineAt", fn := fun _ => fun
  | [d1, d2] => { results := [.lit (.bool true)], args := [d1, d2] }
  | _ => none }
def fnExactLineAtRow : OpenClaim := { program := "ytidggolnhagfdaa", sum := "39098cfb643417c3374a4e9fba237fa5064bc993a78f27bd3fb449d0b5b67d44", func := "loop.example/ordersthatbranch/laws.FnExactLineAt", spec := "fnExactLineAt", unfollowed := true, recurses := true, apart := false }
def FnExactLineAtSaid : Prop := fnExactLineAtRow.holds Try.pinned (OpenSpec.ofChange fnExactLineAtSpec)

/-- ITS FALSE NEIGHBOUR: 'it returns false'. Refute it at one input. -/
def fnExactLineAtWrong : ChangeSpec := { name := "fnExactLineAt", fn := fun _ => fun
  | [d1, d2] => { results := [.lit (.bool false)], args := [d1, d2] }
  | _ => none }
def FnExactLineAtWrongFalsely : Prop := fnExactLineAtRow.holds Try.pinned (OpenSpec.ofChange fnExactLineAtWrong)

/- THE SECOND FORM. 'bulk': how many values and letters a reading holds, each counted each time it is reached (what is shared counts as often as it is met; a slice's spare places count too). A statement '..UptoSaid' is the law's where the arguments, and the package variables that the reading takes, are together of bulk at most 1048576: NARROWER than '..Said'. Prove '..Said' where nothing that the law and all that it calls make is longer than what came in: it says more and counts as full. Else prove '..UptoSaid'. A law counts once. -/
mutual
def uptoBulk {H : Type} : DataW H → Nat
  | .lit (.string bytes) => bytes.length + 1
  | .lit _ => 1
  | .nil => 1
  | .ptr d => uptoBulk d + 1
  | .slice elems spare => uptoBulkAll elems + uptoBulkAll spare + 1
  | .agg parts => uptoBulkAll parts + 1
  | .iface _ d => uptoBulk d + 1
  | .map entries => uptoBulkEntries entries + 1
  | .held _ => 1
def uptoBulkAll {H : Type} : List (DataW H) → Nat
  | [] => 0
  | d :: r => uptoBulk d + uptoBulkAll r
def uptoBulkEntries {H : Type} : List (Lit × DataW H) → Nat
  | [] => 0
  | x :: r => uptoBulkEntry x + uptoBulkEntries r
def uptoBulkEntry {H : Type} : Lit × DataW H → Nat
  | (.string bytes, d) => bytes.length + uptoBulk d + 1
  | (_, d) => uptoBulk d + 1
 end
def uptoSmall : (H : Type) → List (DataW H) → Bool := fun _ ds => decide (uptoBulkAll ds ≤ 1048576)
def OpenSpec.upto (s : _root_.Go.ChangeSpec) : _root_.Go.OpenSpec := { _root_.Go.OpenSpec.ofChange s with cond := some uptoSmall }

/-- 'laws.FnExactIsIdeal', WHERE WHAT IT READS IS OF BULK AT MOST 1048576: true; the input reads as it did. -/
def fnExactIsIdealUptoRow : OpenClaim := { program := "ytidggolnhagfdaa", sum := "39098cfb643417c3374a4e9fba237fa5064bc993a78f27bd3fb449d0b5b67d44", func := "loop.example/ordersthatbranch/laws.FnExactIsIdeal", spec := "fnExactIsIdeal", unfollowed := true, recurses := true, apart := false, narrowed := true }
def FnExactIsIdealUptoSaid : Prop := fnExactIsIdealUptoRow.holds Try.pinned (OpenSpec.upto fnExactIsIdealSpec)

/-- 'laws.FnExactBelowOf', WHERE WHAT IT READS IS OF BULK AT MOST 1048576: true; the input reads as it did. -/
def fnExactBelowOfUptoRow : OpenClaim := { program := "ytidggolnhagfdaa", sum := "39098cfb643417c3374a4e9fba237fa5064bc993a78f27bd3fb449d0b5b67d44", func := "loop.example/ordersthatbranch/laws.FnExactBelowOf", spec := "fnExactBelowOf", unfollowed := true, recurses := true, apart := false, narrowed := true }
def FnExactBelowOfUptoSaid : Prop := fnExactBelowOfUptoRow.holds Try.pinned (OpenSpec.upto fnExactBelowOfSpec)

/-- 'laws.FnExactIdealsOf', WHERE WHAT IT READS IS OF BULK AT MOST 1048576: true; the input reads as it did. -/
def fnExactIdealsOfUptoRow : OpenClaim := { program := "ytidggolnhagfdaa", sum := "39098cfb643417c3374a4e9fba237fa5064bc993a78f27bd3fb449d0b5b67d44", func := "loop.example/ordersthatbranch/laws.FnExactIdealsOf", spec := "fnExactIdealsOf", unfollowed := true, recurses := true, apart := false, narrowed := true }
def FnExactIdealsOfUptoSaid : Prop := fnExactIdealsOfUptoRow.holds Try.pinned (OpenSpec.upto fnExactIdealsOfSpec)

/-- 'laws.FnExactNextIdeal', WHERE WHAT IT READS IS OF BULK AT MOST 1048576: true; the input reads as it did. -/
def fnExactNextIdealUptoRow : OpenClaim := { program := "ytidggolnhagfdaa", sum := "39098cfb643417c3374a4e9fba237fa5064bc993a78f27bd3fb449d0b5b67d44", func := "loop.example/ordersthatbranch/laws.FnExactNextIdeal", spec := "fnExactNextIdeal", unfollowed := true, recurses := true, apart := false, narrowed := true }
def FnExactNextIdealUptoSaid : Prop := fnExactNextIdealUptoRow.holds Try.pinned (OpenSpec.upto fnExactNextIdealSpec)

/-- 'laws.FnTopsOf', WHERE WHAT IT READS IS OF BULK AT MOST 1048576: true; the input reads as it did. -/
def fnTopsOfUptoRow : OpenClaim := { program := "ytidggolnhagfdaa", sum := "39098cfb643417c3374a4e9fba237fa5064bc993a78f27bd3fb449d0b5b67d44", func := "loop.example/ordersthatbranch/laws.FnTopsOf", spec := "fnTopsOf", unfollowed := true, recurses := true, apart := false, narrowed := true }
def FnTopsOfUptoSaid : Prop := fnTopsOfUptoRow.holds Try.pinned (OpenSpec.upto fnTopsOfSpec)

/-- 'laws.FnIsIdeal', WHERE WHAT IT READS IS OF BULK AT MOST 1048576: true; the input reads as it did. -/
def fnIsIdealUptoRow : OpenClaim := { program := "ytidggolnhagfdaa", sum := "39098cfb643417c3374a4e9fba237fa5064bc993a78f27bd3fb449d0b5b67d44", func := "loop.example/ordersthatbranch/laws.FnIsIdeal", spec := "fnIsIdeal", unfollowed := true, recurses := true, apart := false, narrowed := true }
def FnIsIdealUptoSaid : Prop := fnIsIdealUptoRow.holds Try.pinned (OpenSpec.upto fnIsIdealSpec)

/-- 'laws.FnBelowOf', WHERE WHAT IT READS IS OF BULK AT MOST 1048576: true; the input reads as it did. -/
def fnBelowOfUptoRow : OpenClaim := { program := "ytidggolnhagfdaa", sum := "39098cfb643417c3374a4e9fba237fa5064bc993a78f27bd3fb449d0b5b67d44", func := "loop.example/ordersthatbranch/laws.FnBelowOf", spec := "fnBelowOf", unfollowed := true, recurses := true, apart := false, narrowed := true }
def FnBelowOfUptoSaid : Prop := fnBelowOfUptoRow.holds Try.pinned (OpenSpec.upto fnBelowOfSpec)

/-- 'laws.FnNextIdeal', WHERE WHAT IT READS IS OF BULK AT MOST 1048576: true; the input reads as it did. -/
def fnNextIdealUptoRow : OpenClaim := { program := "ytidggolnhagfdaa", sum := "39098cfb643417c3374a4e9fba237fa5064bc993a78f27bd3fb449d0b5b67d44", func := "loop.example/ordersthatbranch/laws.FnNextIdeal", spec := "fnNextIdeal", unfollowed := true, recurses := true, apart := false, narrowed := true }
def FnNextIdealUptoSaid : Prop := fnNextIdealUptoRow.holds Try.pinned (OpenSpec.upto fnNextIdealSpec)

/-- 'laws.FnExactCountLines', WHERE WHAT IT READS IS OF BULK AT MOST 1048576: true; the input reads as it did. -/
def fnExactCountLinesUptoRow : OpenClaim := { program := "ytidggolnhagfdaa", sum := "39098cfb643417c3374a4e9fba237fa5064bc993a78f27bd3fb449d0b5b67d44", func := "loop.example/ordersthatbranch/laws.FnExactCountLines", spec := "fnExactCountLines", unfollowed := true, recurses := true, apart := false, narrowed := true }
def FnExactCountLinesUptoSaid : Prop := fnExactCountLinesUptoRow.holds Try.pinned (OpenSpec.upto fnExactCountLinesSpec)

/-- 'laws.FnExactLineRank', WHERE WHAT IT READS IS OF BULK AT MOST 1048576: true; the input reads as it did. -/
def fnExactLineRankUptoRow : OpenClaim := { program := "ytidggolnhagfdaa", sum := "39098cfb643417c3374a4e9fba237fa5064bc993a78f27bd3fb449d0b5b67d44", func := "loop.example/ordersthatbranch/laws.FnExactLineRank", spec := "fnExactLineRank", unfollowed := true, recurses := true, apart := false, narrowed := true }
def FnExactLineRankUptoSaid : Prop := fnExactLineRankUptoRow.holds Try.pinned (OpenSpec.upto fnExactLineRankSpec)

/-- 'laws.FnExactLineAt', WHERE WHAT IT READS IS OF BULK AT MOST 1048576: true; the input reads as it did. -/
def fnExactLineAtUptoRow : OpenClaim := { program := "ytidggolnhagfdaa", sum := "39098cfb643417c3374a4e9fba237fa5064bc993a78f27bd3fb449d0b5b67d44", func := "loop.example/ordersthatbranch/laws.FnExactLineAt", spec := "fnExactLineAt", unfollowed := true, recurses := true, apart := false, narrowed := true }
def FnExactLineAtUptoSaid : Prop := fnExactLineAtUptoRow.holds Try.pinned (OpenSpec.upto fnExactLineAtSpec)

end Rows
end Go.Proofs.Ytidggolnhagfdaa
