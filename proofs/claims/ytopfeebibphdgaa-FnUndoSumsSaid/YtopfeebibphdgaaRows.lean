/-
  No cell of these rows narrows 'for every input' (looked for: loops, veiled, ifaces, maps, wideKeys, modest, calm, conditions, laid).
  DERIVED. THE GIVEN ROWS OF THIS SEAT. 11 by the template 'for every input the law returns true; each argument reads behind the call as it read before'; 0 by the template 'total and deterministic' (their statements: YtopfeebibphdgaaTotals.lean).
  GIVEN WITH THE SEED: the statements are not yours to turn. If you find one false, say at which input.
  Laid BY PROGRAM, IN A SANDBOX (cutbox-rows.mjs): the forced cells as the released guide's own fill.sh prints them over the translation b1afa4b34162da5a… (all of the seat's roots in one cut). By AI agents, Wed Nov 11 2026. No macro, syntax, notation, axiom, sorry.
-/
import Derived.Test.YtopfeebibphdgaaChecked
import GoSem.Claim
import GoSem.ClaimJoined
import GoSem.ClaimMapViews
import Derived.JoinedTies
import Derived.KernelRfl
namespace Go.Proofs.Ytopfeebibphdgaa
/- THE CELL 'sum', in the pinned program and in every row, IS THE sha256 OF THE DUMP (.gsa) THAT YtopfeebibphdgaaProg.lean LOADS. Nothing in Lean hashes anything: it is a label: what it is worth is what the hold of that sum in a sandbox is worth. -/
noncomputable def Try.pinned : Pinned := { name := "ytopfeebibphdgaa", sum := "b1afa4b34162da5aa7959fff27b49b2ad8835e103feb1d43f9db8cc772a081a9", checked := Try.checked }
namespace Rows
def none {H : Type} : Left H := { results := [], args := [] }

/-- 'laws.FnExactSumsBelow': WHATEVER THE INPUT: true; the input reads as it did. -/
def fnExactSumsBelowSpec : ChangeSpec := { name := "fnExactSumsBelow", fn := fun _ => fun
  | [d1, d2] => { results := [.lit (.bool true)], args := [d1, d2] }
  | _ => none }
def fnExactSumsBelowRow : OpenClaim := { program := "ytopfeebibphdgaa", sum := "b1afa4b34162da5aa7959fff27b49b2ad8835e103feb1d43f9db8cc772a081a9", func := "loop.example/ordersthatbranch/laws.FnExactSumsBelow", spec := "fnExactSumsBelow", unfollowed := true, recurses := true, plainKeys := false, apart := false }
def FnExactSumsBelowSaid : Prop := fnExactSumsBelowRow.holds Try.pinned (OpenSpec.ofChange fnExactSumsBelowSpec)

/-- ITS FALSE NEIGHBOUR: 'it returns false'. Refute it at one input. -/
def fnExactSumsBelowWrong : ChangeSpec := { name := "fnExactSumsBelow", fn := fun _ => fun
  | [d1, d2] => { results := [.lit (.bool false)], args := [d1, d2] }
  | _ => none }
def FnExactSumsBelowWrongFalsely : Prop := fnExactSumsBelowRow.holds Try.pinned (OpenSpec.ofChange fnExactSumsBelowWrong)

/-- 'laws.FnExactSignOf': WHATEVER THE INPUT: true; the input reads as it did. -/
def fnExactSignOfSpec : ChangeSpec := { name := "fnExactSignOf", fn := fun _ => fun
  | [d1, d2, d3] => { results := [.lit (.bool true)], args := [d1, d2, d3] }
  | _ => none }
def fnExactSignOfRow : OpenClaim := { program := "ytopfeebibphdgaa", sum := "b1afa4b34162da5aa7959fff27b49b2ad8835e103feb1d43f9db8cc772a081a9", func := "loop.example/ordersthatbranch/laws.FnExactSignOf", spec := "fnExactSignOf", unfollowed := true, recurses := true, plainKeys := false, apart := false }
def FnExactSignOfSaid : Prop := fnExactSignOfRow.holds Try.pinned (OpenSpec.ofChange fnExactSignOfSpec)

/-- ITS FALSE NEIGHBOUR: 'it returns false'. Refute it at one input. -/
def fnExactSignOfWrong : ChangeSpec := { name := "fnExactSignOf", fn := fun _ => fun
  | [d1, d2, d3] => { results := [.lit (.bool false)], args := [d1, d2, d3] }
  | _ => none }
def FnExactSignOfWrongFalsely : Prop := fnExactSignOfRow.holds Try.pinned (OpenSpec.ofChange fnExactSignOfWrong)

/-- 'laws.FnExactSignByChains': WHATEVER THE INPUT: true; the input reads as it did. -/
def fnExactSignByChainsSpec : ChangeSpec := { name := "fnExactSignByChains", fn := fun _ => fun
  | [d1, d2, d3] => { results := [.lit (.bool true)], args := [d1, d2, d3] }
  | _ => none }
def fnExactSignByChainsRow : OpenClaim := { program := "ytopfeebibphdgaa", sum := "b1afa4b34162da5aa7959fff27b49b2ad8835e103feb1d43f9db8cc772a081a9", func := "loop.example/ordersthatbranch/laws.FnExactSignByChains", spec := "fnExactSignByChains", unfollowed := true, recurses := true, plainKeys := false, apart := false }
def FnExactSignByChainsSaid : Prop := fnExactSignByChainsRow.holds Try.pinned (OpenSpec.ofChange fnExactSignByChainsSpec)

/-- ITS FALSE NEIGHBOUR: 'it returns false'. Refute it at one input. -/
def fnExactSignByChainsWrong : ChangeSpec := { name := "fnExactSignByChains", fn := fun _ => fun
  | [d1, d2, d3] => { results := [.lit (.bool false)], args := [d1, d2, d3] }
  | _ => none }
def FnExactSignByChainsWrongFalsely : Prop := fnExactSignByChainsRow.holds Try.pinned (OpenSpec.ofChange fnExactSignByChainsWrong)

/-- 'laws.FnExactUndoSums': WHATEVER THE INPUT: true; the input reads as it did. -/
def fnExactUndoSumsSpec : ChangeSpec := { name := "fnExactUndoSums", fn := fun _ => fun
  | [d1, d2] => { results := [.lit (.bool true)], args := [d1, d2] }
  | _ => none }
def fnExactUndoSumsRow : OpenClaim := { program := "ytopfeebibphdgaa", sum := "b1afa4b34162da5aa7959fff27b49b2ad8835e103feb1d43f9db8cc772a081a9", func := "loop.example/ordersthatbranch/laws.FnExactUndoSums", spec := "fnExactUndoSums", unfollowed := true, recurses := true, plainKeys := false, apart := false }
def FnExactUndoSumsSaid : Prop := fnExactUndoSumsRow.holds Try.pinned (OpenSpec.ofChange fnExactUndoSumsSpec)

/-- ITS FALSE NEIGHBOUR: 'it returns false'. Refute it at one input. -/
def fnExactUndoSumsWrong : ChangeSpec := { name := "fnExactUndoSums", fn := fun _ => fun
  | [d1, d2] => { results := [.lit (.bool false)], args := [d1, d2] }
  | _ => none }
def FnExactUndoSumsWrongFalsely : Prop := fnExactUndoSumsRow.holds Try.pinned (OpenSpec.ofChange fnExactUndoSumsWrong)

/-- 'laws.FnExactLineSums': WHATEVER THE INPUT: true; the input reads as it did. -/
def fnExactLineSumsSpec : ChangeSpec := { name := "fnExactLineSums", fn := fun _ => fun
  | [d] => { results := [.lit (.bool true)], args := [d] }
  | _ => none }
def fnExactLineSumsRow : OpenClaim := { program := "ytopfeebibphdgaa", sum := "b1afa4b34162da5aa7959fff27b49b2ad8835e103feb1d43f9db8cc772a081a9", func := "loop.example/ordersthatbranch/laws.FnExactLineSums", spec := "fnExactLineSums", unfollowed := true, recurses := true, plainKeys := false, apart := false }
def FnExactLineSumsSaid : Prop := fnExactLineSumsRow.holds Try.pinned (OpenSpec.ofChange fnExactLineSumsSpec)

/-- ITS FALSE NEIGHBOUR: 'it returns false'. Refute it at one input. -/
def fnExactLineSumsWrong : ChangeSpec := { name := "fnExactLineSums", fn := fun _ => fun
  | [d] => { results := [.lit (.bool false)], args := [d] }
  | _ => none }
def FnExactLineSumsWrongFalsely : Prop := fnExactLineSumsRow.holds Try.pinned (OpenSpec.ofChange fnExactLineSumsWrong)

/-- 'laws.FnExactFallsBelow': WHATEVER THE INPUT: true; the input reads as it did. -/
def fnExactFallsBelowSpec : ChangeSpec := { name := "fnExactFallsBelow", fn := fun _ => fun
  | [d] => { results := [.lit (.bool true)], args := [d] }
  | _ => none }
def fnExactFallsBelowRow : OpenClaim := { program := "ytopfeebibphdgaa", sum := "b1afa4b34162da5aa7959fff27b49b2ad8835e103feb1d43f9db8cc772a081a9", func := "loop.example/ordersthatbranch/laws.FnExactFallsBelow", spec := "fnExactFallsBelow", unfollowed := true, recurses := true, plainKeys := false, apart := false }
def FnExactFallsBelowSaid : Prop := fnExactFallsBelowRow.holds Try.pinned (OpenSpec.ofChange fnExactFallsBelowSpec)

/-- ITS FALSE NEIGHBOUR: 'it returns false'. Refute it at one input. -/
def fnExactFallsBelowWrong : ChangeSpec := { name := "fnExactFallsBelow", fn := fun _ => fun
  | [d] => { results := [.lit (.bool false)], args := [d] }
  | _ => none }
def FnExactFallsBelowWrongFalsely : Prop := fnExactFallsBelowRow.holds Try.pinned (OpenSpec.ofChange fnExactFallsBelowWrong)

/-- 'laws.FnSignOf': WHATEVER THE INPUT: true; the input reads as it did. -/
def fnSignOfSpec : ChangeSpec := { name := "fnSignOf", fn := fun _ => fun
  | [d] => { results := [.lit (.bool true)], args := [d] }
  | _ => none }
def fnSignOfRow : OpenClaim := { program := "ytopfeebibphdgaa", sum := "b1afa4b34162da5aa7959fff27b49b2ad8835e103feb1d43f9db8cc772a081a9", func := "loop.example/ordersthatbranch/laws.FnSignOf", spec := "fnSignOf", unfollowed := true, recurses := true, plainKeys := false, apart := false }
def FnSignOfSaid : Prop := fnSignOfRow.holds Try.pinned (OpenSpec.ofChange fnSignOfSpec)

/-- ITS FALSE NEIGHBOUR: 'it returns false'. Refute it at one input. -/
def fnSignOfWrong : ChangeSpec := { name := "fnSignOf", fn := fun _ => fun
  | [d] => { results := [.lit (.bool false)], args := [d] }
  | _ => none }
def FnSignOfWrongFalsely : Prop := fnSignOfRow.holds Try.pinned (OpenSpec.ofChange fnSignOfWrong)

/-- 'laws.FnSignByChains': WHATEVER THE INPUT: true; the input reads as it did. -/
def fnSignByChainsSpec : ChangeSpec := { name := "fnSignByChains", fn := fun _ => fun
  | [d] => { results := [.lit (.bool true)], args := [d] }
  | _ => none }
def fnSignByChainsRow : OpenClaim := { program := "ytopfeebibphdgaa", sum := "b1afa4b34162da5aa7959fff27b49b2ad8835e103feb1d43f9db8cc772a081a9", func := "loop.example/ordersthatbranch/laws.FnSignByChains", spec := "fnSignByChains", unfollowed := true, recurses := true, plainKeys := false, apart := false }
def FnSignByChainsSaid : Prop := fnSignByChainsRow.holds Try.pinned (OpenSpec.ofChange fnSignByChainsSpec)

/-- ITS FALSE NEIGHBOUR: 'it returns false'. Refute it at one input. -/
def fnSignByChainsWrong : ChangeSpec := { name := "fnSignByChains", fn := fun _ => fun
  | [d] => { results := [.lit (.bool false)], args := [d] }
  | _ => none }
def FnSignByChainsWrongFalsely : Prop := fnSignByChainsRow.holds Try.pinned (OpenSpec.ofChange fnSignByChainsWrong)

/-- 'laws.FnSumsBelow': WHATEVER THE INPUT: true; the input reads as it did. -/
def fnSumsBelowSpec : ChangeSpec := { name := "fnSumsBelow", fn := fun _ => fun
  | [d] => { results := [.lit (.bool true)], args := [d] }
  | _ => none }
def fnSumsBelowRow : OpenClaim := { program := "ytopfeebibphdgaa", sum := "b1afa4b34162da5aa7959fff27b49b2ad8835e103feb1d43f9db8cc772a081a9", func := "loop.example/ordersthatbranch/laws.FnSumsBelow", spec := "fnSumsBelow", unfollowed := true, recurses := true, plainKeys := false, apart := false }
def FnSumsBelowSaid : Prop := fnSumsBelowRow.holds Try.pinned (OpenSpec.ofChange fnSumsBelowSpec)

/-- ITS FALSE NEIGHBOUR: 'it returns false'. Refute it at one input. -/
def fnSumsBelowWrong : ChangeSpec := { name := "fnSumsBelow", fn := fun _ => fun
  | [d] => { results := [.lit (.bool false)], args := [d] }
  | _ => none }
def FnSumsBelowWrongFalsely : Prop := fnSumsBelowRow.holds Try.pinned (OpenSpec.ofChange fnSumsBelowWrong)

/-- 'laws.FnUndoSums': WHATEVER THE INPUT: true; the input reads as it did. -/
def fnUndoSumsSpec : ChangeSpec := { name := "fnUndoSums", fn := fun _ => fun
  | [d] => { results := [.lit (.bool true)], args := [d] }
  | _ => none }
def fnUndoSumsRow : OpenClaim := { program := "ytopfeebibphdgaa", sum := "b1afa4b34162da5aa7959fff27b49b2ad8835e103feb1d43f9db8cc772a081a9", func := "loop.example/ordersthatbranch/laws.FnUndoSums", spec := "fnUndoSums", unfollowed := true, recurses := true, plainKeys := false, apart := false }
def FnUndoSumsSaid : Prop := fnUndoSumsRow.holds Try.pinned (OpenSpec.ofChange fnUndoSumsSpec)

/-- ITS FALSE NEIGHBOUR: 'it returns false'. Refute it at one input. -/
def fnUndoSumsWrong : ChangeSpec := { name := "fnUndoSums", fn := fun _ => fun
  | [d] => { results := [.lit (.bool false)], args := [d] }
  | _ => none }
def FnUndoSumsWrongFalsely : Prop := fnUndoSumsRow.holds Try.pinned (OpenSpec.ofChange fnUndoSumsWrong)

/-- 'laws.FnFallsBelow': WHATEVER THE INPUT: true; the input reads as it did. -/
def fnFallsBelowSpec : ChangeSpec := { name := "fnFallsBelow", fn := fun _ => fun
  | [d] => { results := [.lit (.bool true)], args := [d] }
  | _ => none }
def fnFallsBelowRow : OpenClaim := { program := "ytopfeebibphdgaa", sum := "b1afa4b34162da5aa7959fff27b49b2ad8835e103feb1d43f9db8cc772a081a9", func := "loop.example/ordersthatbranch/laws.FnFallsBelow", spec := "fnFallsBelow", unfollowed := true, recurses := true, plainKeys := false, apart := false }
def FnFallsBelowSaid : Prop := fnFallsBelowRow.holds Try.pinned (OpenSpec.ofChange fnFallsBelowSpec)

/-- ITS FALSE NEIGHBOUR: 'it returns false'. Refute it at one input. -/
def fnFallsBelowWrong : ChangeSpec := { name := "fnFallsBelow", fn := fun _ => fun
  | [d] => { results := [.lit (.bool false)], args := [d] }
  | _ => none }
def FnFallsBelowWrongFalsely : Prop := fnFallsBelowRow.holds Try.pinned (OpenSpec.ofChange fnFallsBelowWrong)

/- THE SECOND FORM. 'bulk': how many values and letters a reading holds, each counted each time it is reached (what is shared counts as often as it is met; a slice's spare places count too). A statement '..UptoSaid' is the law's where the arguments, and the package variables that the reading takes, are together of bulk at most 1048576: NARROWER than '..Said'. Prove '..Said' where nothing that the law and all that it calls make is longer than what came in: it says more and counts as full. Else prove '..UptoSaid'. A law counts once. -/
mutual
def uptoBulk {H : Type} : DataW H → Nat
  | .lit (.string bytes) => bytes.length + 1
  | .lit _ => 1
  | .nil => 1
  | .ptr d => uptoBulk d + 1
  | .slice elems spare => uptoBulkAll elems + uptoBulkAll spare + 1
  | .agg parts => uptoBulkAll parts + 1
  | .iface _ d => uptoBulk d + 1
  | .map entries => uptoBulkEntries entries + 1
  | .held _ => 1
def uptoBulkAll {H : Type} : List (DataW H) → Nat
  | [] => 0
  | d :: r => uptoBulk d + uptoBulkAll r
def uptoBulkEntries {H : Type} : List (Lit × DataW H) → Nat
  | [] => 0
  | x :: r => uptoBulkEntry x + uptoBulkEntries r
def uptoBulkEntry {H : Type} : Lit × DataW H → Nat
  | (.string bytes, d) => bytes.length + uptoBulk d + 1
  | (_, d) => uptoBulk d + 1
 end
def uptoSmall : (H : Type) → List (DataW H) → Bool := fun _ ds => decide (uptoBulkAll ds ≤ 1048576)
def OpenSpec.upto (s : _root_.Go.ChangeSpec) : _root_.Go.OpenSpec := { _root_.Go.OpenSpec.ofChange s with cond := some uptoSmall }

/-- 'laws.FnExactSumsBelow', WHERE WHAT IT READS IS OF BULK AT MOST 1048576: true; the input reads as it did. -/
def fnExactSumsBelowUptoRow : OpenClaim := { program := "ytopfeebibphdgaa", sum := "b1afa4b34162da5aa7959fff27b49b2ad8835e103feb1d43f9db8cc772a081a9", func := "loop.example/ordersthatbranch/laws.FnExactSumsBelow", spec := "fnExactSumsBelow", unfollowed := true, recurses := true, plainKeys := false, apart := false, narrowed := true }
def FnExactSumsBelowUptoSaid : Prop := fnExactSumsBelowUptoRow.holds Try.pinned (OpenSpec.upto fnExactSumsBelowSpec)

/-- 'laws.FnExactSignOf', WHERE WHAT IT READS IS OF BULK AT MOST 1048576: true; the input reads as it did. -/
def fnExactSignOfUptoRow : OpenClaim := { program := "ytopfeebibphdgaa", sum := "b1afa4b34162da5aa7959fff27b49b2ad8835e103feb1d43f9db8cc772a081a9", func := "loop.example/ordersthatbranch/laws.FnExactSignOf", spec := "fnExactSignOf", unfollowed := true, recurses := true, plainKeys := false, apart := false, narrowed := true }
def FnExactSignOfUptoSaid : Prop := fnExactSignOfUptoRow.holds Try.pinned (OpenSpec.upto fnExactSignOfSpec)

/-- 'laws.FnExactSignByChains', WHERE WHAT IT READS IS OF BULK AT MOST 1048576: true; the input reads as it did. -/
def fnExactSignByChainsUptoRow : OpenClaim := { program := "ytopfeebibphdgaa", sum := "b1afa4b34162da5aa7959fff27b49b2ad8835e103feb1d43f9db8cc772a081a9", func := "loop.example/ordersthatbranch/laws.FnExactSignByChains", spec := "fnExactSignByChains", unfollowed := true, recurses := true, plainKeys := false, apart := false, narrowed := true }
def FnExactSignByChainsUptoSaid : Prop := fnExactSignByChainsUptoRow.holds Try.pinned (OpenSpec.upto fnExactSignByChainsSpec)

/-- 'laws.FnExactUndoSums', WHERE WHAT IT READS IS OF BULK AT MOST 1048576: true; the input reads as it did. -/
def fnExactUndoSumsUptoRow : OpenClaim := { program := "ytopfeebibphdgaa", sum := "b1afa4b34162da5aa7959fff27b49b2ad8835e103feb1d43f9db8cc772a081a9", func := "loop.example/ordersthatbranch/laws.FnExactUndoSums", spec := "fnExactUndoSums", unfollowed := true, recurses := true, plainKeys := false, apart := false, narrowed := true }
def FnExactUndoSumsUptoSaid : Prop := fnExactUndoSumsUptoRow.holds Try.pinned (OpenSpec.upto fnExactUndoSumsSpec)

/-- 'laws.FnExactLineSums', WHERE WHAT IT READS IS OF BULK AT MOST 1048576: true; the input reads as it did. -/
def fnExactLineSumsUptoRow : OpenClaim := { program := "ytopfeebibphdgaa", sum := "b1afa4b34162da5aa7959fff27b49b2ad8835e103feb1d43f9db8cc772a081a9", func := "loop.example/ordersthatbranch/laws.FnExactLineSums", spec := "fnExactLineSums", unfollowed := true, recurses := true, plainKeys := false, apart := false, narrowed := true }
def FnExactLineSumsUptoSaid : Prop := fnExactLineSumsUptoRow.holds Try.pinned (OpenSpec.upto fnExactLineSumsSpec)

/-- 'laws.FnExactFallsBelow', WHERE WHAT IT READS IS OF BULK AT MOST 1048576: true; the input reads as it did. -/
def fnExactFallsBelowUptoRow : OpenClaim := { program := "ytopfeebibphdgaa", sum := "b1afa4b34162da5aa7959fff27b49b2ad8835e103feb1d43f9db8cc772a081a9", func := "loop.example/ordersthatbranch/laws.FnExactFallsBelow", spec := "fnExactFallsBelow", unfollowed := true, recurses := true, plainKeys := false, apart := false, narrowed := true }
def FnExactFallsBelowUptoSaid : Prop := fnExactFallsBelowUptoRow.holds Try.pinned (OpenSpec.upto fnExactFallsBelowSpec)

/-- 'laws.FnSignOf', WHERE WHAT IT READS IS OF BULK AT MOST 1048576: true; the input reads as it did. -/
def fnSignOfUptoRow : OpenClaim := { program := "ytopfeebibphdgaa", sum := "b1afa4b34162da5aa7959fff27b49b2ad8835e103feb1d43f9db8cc772a081a9", func := "loop.example/ordersthatbranch/laws.FnSignOf", spec := "fnSignOf", unfollowed := true, recurses := true, plainKeys := false, apart := false, narrowed := true }
def FnSignOfUptoSaid : Prop := fnSignOfUptoRow.holds Try.pinned (OpenSpec.upto fnSignOfSpec)

/-- 'laws.FnSignByChains', WHERE WHAT IT READS IS OF BULK AT MOST 1048576: true; the input reads as it did. -/
def fnSignByChainsUptoRow : OpenClaim := { program := "ytopfeebibphdgaa", sum := "b1afa4b34162da5aa7959fff27b49b2ad8835e103feb1d43f9db8cc772a081a9", func := "loop.example/ordersthatbranch/laws.FnSignByChains", spec := "fnSignByChains", unfollowed := true, recurses := true, plainKeys := false, apart := false, narrowed := true }
def FnSignByChainsUptoSaid : Prop := fnSignByChainsUptoRow.holds Try.pinned (OpenSpec.upto fnSignByChainsSpec)

/-- 'laws.FnSumsBelow', WHERE WHAT IT READS IS OF BULK AT MOST 1048576: true; the input reads as it did. -/
def fnSumsBelowUptoRow : OpenClaim := { program := "ytopfeebibphdgaa", sum := "b1afa4b34162da5aa7959fff27b49b2ad8835e103feb1d43f9db8cc772a081a9", func := "loop.example/ordersthatbranch/laws.FnSumsBelow", spec := "fnSumsBelow", unfollowed := true, recurses := true, plainKeys := false, apart := false, narrowed := true }
def FnSumsBelowUptoSaid : Prop := fnSumsBelowUptoRow.holds Try.pinned (OpenSpec.upto fnSumsBelowSpec)

/-- 'laws.FnUndoSums', WHERE WHAT IT READS IS OF BULK AT MOST 1048576: true; the input reads as it did. -/
def fnUndoSumsUptoRow : OpenClaim := { program := "ytopfeebibphdgaa", sum := "b1afa4b34162da5aa7959fff27b49b2ad8835e103feb1d43f9db8cc772a081a9", func := "loop.example/ordersthatbranch/laws.FnUndoSums", spec := "fnUndoSums", unfollowed := true, recurses := true, plainKeys := false, apart := false, narrowed := true }
def FnUndoSumsUptoSaid : Prop := fnUndoSumsUptoRow.holds Try.pinned (OpenSpec.upto fnUndoSumsSpec)

/-- 'laws.FnFallsBelow', WHERE WHAT IT READS IS OF BULK AT MOST 1048576: true; the input reads as it did. -/
def fnFallsBelowUptoRow : OpenClaim := { program := "ytopfeebibphdgaa", sum := "b1afa4b34162da5aa7959fff27b49b2ad8835e103feb1d43f9db8cc772a081a9", func := "loop.example/ordersthatbranch/laws.FnFallsBelow", spec := "fnFallsBelow", unfollowed := true, recurses := true, plainKeys := false, apart := false, narrowed := true }
def FnFallsBelowUptoSaid : Prop := fnFallsBelowUptoRow.holds Try.pinned (OpenSpec.upto fnFallsBelowSpec)

end Rows
end Go.Proofs.Ytopfeebibphdgaa
