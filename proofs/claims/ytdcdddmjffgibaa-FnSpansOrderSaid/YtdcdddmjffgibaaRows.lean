/-
  No cell of these rows narrows 'for every input' (looked for: loops, veiled, ifaces, maps, wideKeys, modest, calm, conditions, laid).
  DERIVED. THE GIVEN ROWS OF THIS SEAT. 10 by the template 'for every input the law returns true; each argument reads behind the call as it read before'; 0 by the template 'total and deterministic' (their statements: YtdcdddmjffgibaaTotals.lean).
  GIVEN WITH THE SEED: the statements are not yours to turn. If you find one false, say at which input.
  Laid BY PROGRAM, IN A SANDBOX (cutbox-rows.mjs): the forced cells as the released guide's own fill.sh prints them over the translation 052df85d072e310c… (all of the seat's roots in one cut). By AI agents, Wed Nov 11 2026. No macro, syntax, notation, axiom, sorry.
-/
import Derived.Test.YtdcdddmjffgibaaChecked
import GoSem.Claim
import GoSem.ClaimJoined
import GoSem.ClaimMapViews
import Derived.JoinedTies
import Derived.KernelRfl
namespace Go.Proofs.Ytdcdddmjffgibaa
/- THE CELL 'sum', in the pinned program and in every row, IS THE sha256 OF THE DUMP (.gsa) THAT YtdcdddmjffgibaaProg.lean LOADS. Nothing in Lean hashes anything: it is a label: what it is worth is what the hold of that sum in a sandbox is worth. -/
noncomputable def Try.pinned : Pinned := { name := "ytdcdddmjffgibaa", sum := "052df85d072e310c64ae82d104650d874fee39af6b59b34a4cb45df30236f223", checked := Try.checked }
namespace Rows
def none {H : Type} : Left H := { results := [], args := [] }

/-- 'laws.FnExactSpansOrder': WHATEVER THE INPUT: true; the input reads as it did. -/
def fnExactSpansOrderSpec : ChangeSpec := { name := "fnExactSpansOrder", fn := fun _ => fun
  | [d] => { results := [.lit (.bool true)], args := [d] }
  | _ => none }
def fnExactSpansOrderRow : OpenClaim := { program := "ytdcdddmjffgibaa", sum := "052df85d072e310c64ae82d104650d874fee39af6b59b34a4cb45df30236f223", func := "loop.example/ordersthatbranch/laws.FnExactSpansOrder", spec := "fnExactSpansOrder", apart := false }
def FnExactSpansOrderSaid : Prop := fnExactSpansOrderRow.holds Try.pinned (OpenSpec.ofChange fnExactSpansOrderSpec)

/-- ITS FALSE NEIGHBOUR: 'it returns false'. Refute it at one input. -/
def fnExactSpansOrderWrong : ChangeSpec := { name := "fnExactSpansOrder", fn := fun _ => fun
  | [d] => { results := [.lit (.bool false)], args := [d] }
  | _ => none }
def FnExactSpansOrderWrongFalsely : Prop := fnExactSpansOrderRow.holds Try.pinned (OpenSpec.ofChange fnExactSpansOrderWrong)

/-- 'laws.FnExactHasTwoPairs': WHATEVER THE INPUT: true; the input reads as it did. -/
def fnExactHasTwoPairsSpec : ChangeSpec := { name := "fnExactHasTwoPairs", fn := fun _ => fun
  | [d] => { results := [.lit (.bool true)], args := [d] }
  | _ => none }
def fnExactHasTwoPairsRow : OpenClaim := { program := "ytdcdddmjffgibaa", sum := "052df85d072e310c64ae82d104650d874fee39af6b59b34a4cb45df30236f223", func := "loop.example/ordersthatbranch/laws.FnExactHasTwoPairs", spec := "fnExactHasTwoPairs", unfollowed := true, recurses := true, apart := false }
def FnExactHasTwoPairsSaid : Prop := fnExactHasTwoPairsRow.holds Try.pinned (OpenSpec.ofChange fnExactHasTwoPairsSpec)

/-- ITS FALSE NEIGHBOUR: 'it returns false'. Refute it at one input. -/
def fnExactHasTwoPairsWrong : ChangeSpec := { name := "fnExactHasTwoPairs", fn := fun _ => fun
  | [d] => { results := [.lit (.bool false)], args := [d] }
  | _ => none }
def FnExactHasTwoPairsWrongFalsely : Prop := fnExactHasTwoPairsRow.holds Try.pinned (OpenSpec.ofChange fnExactHasTwoPairsWrong)

/-- 'laws.FnExactHasThreeOne': WHATEVER THE INPUT: true; the input reads as it did. -/
def fnExactHasThreeOneSpec : ChangeSpec := { name := "fnExactHasThreeOne", fn := fun _ => fun
  | [d] => { results := [.lit (.bool true)], args := [d] }
  | _ => none }
def fnExactHasThreeOneRow : OpenClaim := { program := "ytdcdddmjffgibaa", sum := "052df85d072e310c64ae82d104650d874fee39af6b59b34a4cb45df30236f223", func := "loop.example/ordersthatbranch/laws.FnExactHasThreeOne", spec := "fnExactHasThreeOne", unfollowed := true, recurses := true, apart := false }
def FnExactHasThreeOneSaid : Prop := fnExactHasThreeOneRow.holds Try.pinned (OpenSpec.ofChange fnExactHasThreeOneSpec)

/-- ITS FALSE NEIGHBOUR: 'it returns false'. Refute it at one input. -/
def fnExactHasThreeOneWrong : ChangeSpec := { name := "fnExactHasThreeOne", fn := fun _ => fun
  | [d] => { results := [.lit (.bool false)], args := [d] }
  | _ => none }
def FnExactHasThreeOneWrongFalsely : Prop := fnExactHasThreeOneRow.holds Try.pinned (OpenSpec.ofChange fnExactHasThreeOneWrong)

/-- 'laws.FnExactSpansOf': WHATEVER THE INPUT: true; the input reads as it did. -/
def fnExactSpansOfSpec : ChangeSpec := { name := "fnExactSpansOf", fn := fun _ => fun
  | [d] => { results := [.lit (.bool true)], args := [d] }
  | _ => none }
def fnExactSpansOfRow : OpenClaim := { program := "ytdcdddmjffgibaa", sum := "052df85d072e310c64ae82d104650d874fee39af6b59b34a4cb45df30236f223", func := "loop.example/ordersthatbranch/laws.FnExactSpansOf", spec := "fnExactSpansOf", unfollowed := true, recurses := true, apart := false }
def FnExactSpansOfSaid : Prop := fnExactSpansOfRow.holds Try.pinned (OpenSpec.ofChange fnExactSpansOfSpec)

/-- ITS FALSE NEIGHBOUR: 'it returns false'. Refute it at one input. -/
def fnExactSpansOfWrong : ChangeSpec := { name := "fnExactSpansOf", fn := fun _ => fun
  | [d] => { results := [.lit (.bool false)], args := [d] }
  | _ => none }
def FnExactSpansOfWrongFalsely : Prop := fnExactSpansOfRow.holds Try.pinned (OpenSpec.ofChange fnExactSpansOfWrong)

/-- 'laws.FnExactCountUps': WHATEVER THE INPUT: true; the input reads as it did. -/
def fnExactCountUpsSpec : ChangeSpec := { name := "fnExactCountUps", fn := fun _ => fun
  | [d] => { results := [.lit (.bool true)], args := [d] }
  | _ => none }
def fnExactCountUpsRow : OpenClaim := { program := "ytdcdddmjffgibaa", sum := "052df85d072e310c64ae82d104650d874fee39af6b59b34a4cb45df30236f223", func := "loop.example/ordersthatbranch/laws.FnExactCountUps", spec := "fnExactCountUps", unfollowed := true, recurses := true, apart := false }
def FnExactCountUpsSaid : Prop := fnExactCountUpsRow.holds Try.pinned (OpenSpec.ofChange fnExactCountUpsSpec)

/-- ITS FALSE NEIGHBOUR: 'it returns false'. Refute it at one input. -/
def fnExactCountUpsWrong : ChangeSpec := { name := "fnExactCountUps", fn := fun _ => fun
  | [d] => { results := [.lit (.bool false)], args := [d] }
  | _ => none }
def FnExactCountUpsWrongFalsely : Prop := fnExactCountUpsRow.holds Try.pinned (OpenSpec.ofChange fnExactCountUpsWrong)

/-- 'laws.FnExactCountDowns': WHATEVER THE INPUT: true; the input reads as it did. -/
def fnExactCountDownsSpec : ChangeSpec := { name := "fnExactCountDowns", fn := fun _ => fun
  | [d] => { results := [.lit (.bool true)], args := [d] }
  | _ => none }
def fnExactCountDownsRow : OpenClaim := { program := "ytdcdddmjffgibaa", sum := "052df85d072e310c64ae82d104650d874fee39af6b59b34a4cb45df30236f223", func := "loop.example/ordersthatbranch/laws.FnExactCountDowns", spec := "fnExactCountDowns", unfollowed := true, recurses := true, apart := false }
def FnExactCountDownsSaid : Prop := fnExactCountDownsRow.holds Try.pinned (OpenSpec.ofChange fnExactCountDownsSpec)

/-- ITS FALSE NEIGHBOUR: 'it returns false'. Refute it at one input. -/
def fnExactCountDownsWrong : ChangeSpec := { name := "fnExactCountDowns", fn := fun _ => fun
  | [d] => { results := [.lit (.bool false)], args := [d] }
  | _ => none }
def FnExactCountDownsWrongFalsely : Prop := fnExactCountDownsRow.holds Try.pinned (OpenSpec.ofChange fnExactCountDownsWrong)

/-- 'laws.FnSpansOrder': WHATEVER THE INPUT: true; the input reads as it did. -/
def fnSpansOrderSpec : ChangeSpec := { name := "fnSpansOrder", fn := fun _ => fun
  | [d] => { results := [.lit (.bool true)], args := [d] }
  | _ => none }
def fnSpansOrderRow : OpenClaim := { program := "ytdcdddmjffgibaa", sum := "052df85d072e310c64ae82d104650d874fee39af6b59b34a4cb45df30236f223", func := "loop.example/ordersthatbranch/laws.FnSpansOrder", spec := "fnSpansOrder", unfollowed := true, recurses := true, apart := false }
def FnSpansOrderSaid : Prop := fnSpansOrderRow.holds Try.pinned (OpenSpec.ofChange fnSpansOrderSpec)

/-- ITS FALSE NEIGHBOUR: 'it returns false'. Refute it at one input. -/
def fnSpansOrderWrong : ChangeSpec := { name := "fnSpansOrder", fn := fun _ => fun
  | [d] => { results := [.lit (.bool false)], args := [d] }
  | _ => none }
def FnSpansOrderWrongFalsely : Prop := fnSpansOrderRow.holds Try.pinned (OpenSpec.ofChange fnSpansOrderWrong)

/-- 'laws.FnHasThreeOne': WHATEVER THE INPUT: true; the input reads as it did. -/
def fnHasThreeOneSpec : ChangeSpec := { name := "fnHasThreeOne", fn := fun _ => fun
  | [d] => { results := [.lit (.bool true)], args := [d] }
  | _ => none }
def fnHasThreeOneRow : OpenClaim := { program := "ytdcdddmjffgibaa", sum := "052df85d072e310c64ae82d104650d874fee39af6b59b34a4cb45df30236f223", func := "loop.example/ordersthatbranch/laws.FnHasThreeOne", spec := "fnHasThreeOne", unfollowed := true, recurses := true, apart := false }
def FnHasThreeOneSaid : Prop := fnHasThreeOneRow.holds Try.pinned (OpenSpec.ofChange fnHasThreeOneSpec)

/-- ITS FALSE NEIGHBOUR: 'it returns false'. Refute it at one input. -/
def fnHasThreeOneWrong : ChangeSpec := { name := "fnHasThreeOne", fn := fun _ => fun
  | [d] => { results := [.lit (.bool false)], args := [d] }
  | _ => none }
def FnHasThreeOneWrongFalsely : Prop := fnHasThreeOneRow.holds Try.pinned (OpenSpec.ofChange fnHasThreeOneWrong)

/-- 'laws.FnCountUps': WHATEVER THE INPUT: true; the input reads as it did. -/
def fnCountUpsSpec : ChangeSpec := { name := "fnCountUps", fn := fun _ => fun
  | [d] => { results := [.lit (.bool true)], args := [d] }
  | _ => none }
def fnCountUpsRow : OpenClaim := { program := "ytdcdddmjffgibaa", sum := "052df85d072e310c64ae82d104650d874fee39af6b59b34a4cb45df30236f223", func := "loop.example/ordersthatbranch/laws.FnCountUps", spec := "fnCountUps", unfollowed := true, recurses := true, apart := false }
def FnCountUpsSaid : Prop := fnCountUpsRow.holds Try.pinned (OpenSpec.ofChange fnCountUpsSpec)

/-- ITS FALSE NEIGHBOUR: 'it returns false'. Refute it at one input. -/
def fnCountUpsWrong : ChangeSpec := { name := "fnCountUps", fn := fun _ => fun
  | [d] => { results := [.lit (.bool false)], args := [d] }
  | _ => none }
def FnCountUpsWrongFalsely : Prop := fnCountUpsRow.holds Try.pinned (OpenSpec.ofChange fnCountUpsWrong)

/-- 'laws.FnCountDowns': WHATEVER THE INPUT: true; the input reads as it did. -/
def fnCountDownsSpec : ChangeSpec := { name := "fnCountDowns", fn := fun _ => fun
  | [d] => { results := [.lit (.bool true)], args := [d] }
  | _ => none }
def fnCountDownsRow : OpenClaim := { program := "ytdcdddmjffgibaa", sum := "052df85d072e310c64ae82d104650d874fee39af6b59b34a4cb45df30236f223", func := "loop.example/ordersthatbranch/laws.FnCountDowns", spec := "fnCountDowns", unfollowed := true, recurses := true, apart := false }
def FnCountDownsSaid : Prop := fnCountDownsRow.holds Try.pinned (OpenSpec.ofChange fnCountDownsSpec)

/-- ITS FALSE NEIGHBOUR: 'it returns false'. Refute it at one input. -/
def fnCountDownsWrong : ChangeSpec := { name := "fnCountDowns", fn := fun _ => fun
  | [d] => { results := [.lit (.bool false)], args := [d] }
  | _ => none }
def FnCountDownsWrongFalsely : Prop := fnCountDownsRow.holds Try.pinned (OpenSpec.ofChange fnCountDownsWrong)

/- THE SECOND FORM. 'bulk': how many values and letters a reading holds, each counted each time it is reached (what is shared counts as often as it is met; a slice's spare places count too). A statement '..UptoSaid' is the law's where the arguments, and the package variables that the reading takes, are together of bulk at most 1048576: NARROWER than '..Said'. Prove '..Said' where nothing that the law and all that it calls make is longer than what came in: it says more and counts as full. Else prove '..UptoSaid'. A law counts once. -/
mutual
def uptoBulk {H : Type} : DataW H → Nat
  | .lit (.string bytes) => bytes.length + 1
  | .lit _ => 1
  | .nil => 1
  | .ptr d => uptoBulk d + 1
  | .slice elems spare => uptoBulkAll elems + uptoBulkAll spare + 1
  | .agg parts => uptoBulkAll parts + 1
  | .iface _ d => uptoBulk d + 1
  | .map entries => uptoBulkEntries entries + 1
  | .held _ => 1
def uptoBulkAll {H : Type} : List (DataW H) → Nat
  | [] => 0
  | d :: r => uptoBulk d + uptoBulkAll r
def uptoBulkEntries {H : Type} : List (Lit × DataW H) → Nat
  | [] => 0
  | x :: r => uptoBulkEntry x + uptoBulkEntries r
def uptoBulkEntry {H : Type} : Lit × DataW H → Nat
  | (.string bytes, d) => bytes.length + uptoBulk d + 1
  | (_, d) => uptoBulk d + 1
 end
def uptoSmall : (H : Type) → List (DataW H) → Bool := fun _ ds => decide (uptoBulkAll ds ≤ 1048576)
def OpenSpec.upto (s : _root_.Go.ChangeSpec) : _root_.Go.OpenSpec := { _root_.Go.OpenSpec.ofChange s with cond := some uptoSmall }

/-- 'laws.FnExactSpansOrder', WHERE WHAT IT READS IS OF BULK AT MOST 1048576: true; the input reads as it did. -/
def fnExactSpansOrderUptoRow : OpenClaim := { program := "ytdcdddmjffgibaa", sum := "052df85d072e310c64ae82d104650d874fee39af6b59b34a4cb45df30236f223", func := "loop.example/ordersthatbranch/laws.FnExactSpansOrder", spec := "fnExactSpansOrder", apart := false, narrowed := true }
def FnExactSpansOrderUptoSaid : Prop := fnExactSpansOrderUptoRow.holds Try.pinned (OpenSpec.upto fnExactSpansOrderSpec)

/-- 'laws.FnExactHasTwoPairs', WHERE WHAT IT READS IS OF BULK AT MOST 1048576: true; the input reads as it did. -/
def fnExactHasTwoPairsUptoRow : OpenClaim := { program := "ytdcdddmjffgibaa", sum := "052df85d072e310c64ae82d104650d874fee39af6b59b34a4cb45df30236f223", func := "loop.example/ordersthatbranch/laws.FnExactHasTwoPairs", spec := "fnExactHasTwoPairs", unfollowed := true, recurses := true, apart := false, narrowed := true }
def FnExactHasTwoPairsUptoSaid : Prop := fnExactHasTwoPairsUptoRow.holds Try.pinned (OpenSpec.upto fnExactHasTwoPairsSpec)

/-- 'laws.FnExactHasThreeOne', WHERE WHAT IT READS IS OF BULK AT MOST 1048576: true; the input reads as it did. -/
def fnExactHasThreeOneUptoRow : OpenClaim := { program := "ytdcdddmjffgibaa", sum := "052df85d072e310c64ae82d104650d874fee39af6b59b34a4cb45df30236f223", func := "loop.example/ordersthatbranch/laws.FnExactHasThreeOne", spec := "fnExactHasThreeOne", unfollowed := true, recurses := true, apart := false, narrowed := true }
def FnExactHasThreeOneUptoSaid : Prop := fnExactHasThreeOneUptoRow.holds Try.pinned (OpenSpec.upto fnExactHasThreeOneSpec)

/-- 'laws.FnExactSpansOf', WHERE WHAT IT READS IS OF BULK AT MOST 1048576: true; the input reads as it did. -/
def fnExactSpansOfUptoRow : OpenClaim := { program := "ytdcdddmjffgibaa", sum := "052df85d072e310c64ae82d104650d874fee39af6b59b34a4cb45df30236f223", func := "loop.example/ordersthatbranch/laws.FnExactSpansOf", spec := "fnExactSpansOf", unfollowed := true, recurses := true, apart := false, narrowed := true }
def FnExactSpansOfUptoSaid : Prop := fnExactSpansOfUptoRow.holds Try.pinned (OpenSpec.upto fnExactSpansOfSpec)

/-- 'laws.FnExactCountUps', WHERE WHAT IT READS IS OF BULK AT MOST 1048576: true; the input reads as it did. -/
def fnExactCountUpsUptoRow : OpenClaim := { program := "ytdcdddmjffgibaa", sum := "052df85d072e310c64ae82d104650d874fee39af6b59b34a4cb45df30236f223", func := "loop.example/ordersthatbranch/laws.FnExactCountUps", spec := "fnExactCountUps", unfollowed := true, recurses := true, apart := false, narrowed := true }
def FnExactCountUpsUptoSaid : Prop := fnExactCountUpsUptoRow.holds Try.pinned (OpenSpec.upto fnExactCountUpsSpec)

/-- 'laws.FnExactCountDowns', WHERE WHAT IT READS IS OF BULK AT MOST 1048576: true; the input reads as it did. -/
def fnExactCountDownsUptoRow : OpenClaim := { program := "ytdcdddmjffgibaa", sum := "052df85d072e310c64ae82d104650d874fee39af6b59b34a4cb45df30236f223", func := "loop.example/ordersthatbranch/laws.FnExactCountDowns", spec := "fnExactCountDowns", unfollowed := true, recurses := true, apart := false, narrowed := true }
def FnExactCountDownsUptoSaid : Prop := fnExactCountDownsUptoRow.holds Try.pinned (OpenSpec.upto fnExactCountDownsSpec)

/-- 'laws.FnSpansOrder', WHERE WHAT IT READS IS OF BULK AT MOST 1048576: true; the input reads as it did. -/
def fnSpansOrderUptoRow : OpenClaim := { program := "ytdcdddmjffgibaa", sum := "052df85d072e310c64ae82d104650d874fee39af6b59b34a4cb45df30236f223", func := "loop.example/ordersthatbranch/laws.FnSpansOrder", spec := "fnSpansOrder", unfollowed := true, recurses := true, apart := false, narrowed := true }
def FnSpansOrderUptoSaid : Prop := fnSpansOrderUptoRow.holds Try.pinned (OpenSpec.upto fnSpansOrderSpec)

/-- 'laws.FnHasThreeOne', WHERE WHAT IT READS IS OF BULK AT MOST 1048576: true; the input reads as it did. -/
def fnHasThreeOneUptoRow : OpenClaim := { program := "ytdcdddmjffgibaa", sum := "052df85d072e310c64ae82d104650d874fee39af6b59b34a4cb45df30236f223", func := "loop.example/ordersthatbranch/laws.FnHasThreeOne", spec := "fnHasThreeOne", unfollowed := true, recurses := true, apart := false, narrowed := true }
def FnHasThreeOneUptoSaid : Prop := fnHasThreeOneUptoRow.holds Try.pinned (OpenSpec.upto fnHasThreeOneSpec)

/-- 'laws.FnCountUps', WHERE WHAT IT READS IS OF BULK AT MOST 1048576: true; the input reads as it did. -/
def fnCountUpsUptoRow : OpenClaim := { program := "ytdcdddmjffgibaa", sum := "052df85d072e310c64ae82d104650d874fee39af6b59b34a4cb45df30236f223", func := "loop.example/ordersthatbranch/laws.FnCountUps", spec := "fnCountUps", unfollowed := true, recurses := true, apart := false, narrowed := true }
def FnCountUpsUptoSaid : Prop := fnCountUpsUptoRow.holds Try.pinned (OpenSpec.upto fnCountUpsSpec)

/-- 'laws.FnCountDowns', WHERE WHAT IT READS IS OF BULK AT MOST 1048576: true; the input reads as it did. -/
def fnCountDownsUptoRow : OpenClaim := { program := "ytdcdddmjffgibaa", sum := "052df85d072e310c64ae82d104650d874fee39af6b59b34a4cb45df30236f223", func := "loop.example/ordersthatbranch/laws.FnCountDowns", spec := "fnCountDowns", unfollowed := true, recurses := true, apart := false, narrowed := true }
def FnCountDownsUptoSaid : Prop := fnCountDownsUptoRow.holds Try.pinned (OpenSpec.upto fnCountDownsSpec)

end Rows
end Go.Proofs.Ytdcdddmjffgibaa
