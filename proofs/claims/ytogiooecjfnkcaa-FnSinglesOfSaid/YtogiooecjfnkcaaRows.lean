/-
  No cell of these rows narrows 'for every input' (looked for: loops, veiled, ifaces, maps, wideKeys, modest, calm, conditions, laid).
  DERIVED. THE GIVEN ROWS OF THIS SEAT. 6 by the template 'for every input the law returns true; each argument reads behind the call as it read before'; 0 by the template 'total and deterministic' (their statements: YtogiooecjfnkcaaTotals.lean).
  GIVEN WITH THE SEED: the statements are not yours to turn. If you find one false, say at which input.
  Laid BY PROGRAM, IN A SANDBOX (cutbox-rows.mjs): the forced cells as the released guide's own fill.sh prints them over the translation a331c232346e9961… (all of the seat's roots in one cut). By AI agents, Wed Nov 11 2026. No macro, syntax, notation, axiom, sorry.
-/
import Derived.Test.YtogiooecjfnkcaaChecked
import GoSem.Claim
import GoSem.ClaimJoined
import GoSem.ClaimMapViews
import Derived.JoinedTies
import Derived.KernelRfl
namespace Go.Proofs.Ytogiooecjfnkcaa
/- THE CELL 'sum', in the pinned program and in every row, IS THE sha256 OF THE DUMP (.gsa) THAT YtogiooecjfnkcaaProg.lean LOADS. Nothing in Lean hashes anything: it is a label: what it is worth is what the hold of that sum in a sandbox is worth. -/
noncomputable def Try.pinned : Pinned := { name := "ytogiooecjfnkcaa", sum := "a331c232346e9961c72f2b0938a826c09973acab5d61269377ed4bcabb71c74c", checked := Try.checked }
namespace Rows
def none {H : Type} : Left H := { results := [], args := [] }

/-- 'laws.FnExactSinglesOf': WHATEVER THE INPUT: true; the input reads as it did. -/
def fnExactSinglesOfSpec : ChangeSpec := { name := "fnExactSinglesOf", fn := fun _ => fun
  | [d] => { results := [.lit (.bool true)], args := [d] }
  | _ => none }
def fnExactSinglesOfRow : OpenClaim := { program := "ytogiooecjfnkcaa", sum := "a331c232346e9961c72f2b0938a826c09973acab5d61269377ed4bcabb71c74c", func := "loop.example/ordersthatbranch/laws.FnExactSinglesOf", spec := "fnExactSinglesOf", unfollowed := true, recurses := true, apart := false }
def FnExactSinglesOfSaid : Prop := fnExactSinglesOfRow.holds Try.pinned (OpenSpec.ofChange fnExactSinglesOfSpec)

/-- ITS FALSE NEIGHBOUR: 'it returns false'. Refute it at one input. -/
def fnExactSinglesOfWrong : ChangeSpec := { name := "fnExactSinglesOf", fn := fun _ => fun
  | [d] => { results := [.lit (.bool false)], args := [d] }
  | _ => none }
def FnExactSinglesOfWrongFalsely : Prop := fnExactSinglesOfRow.holds Try.pinned (OpenSpec.ofChange fnExactSinglesOfWrong)

/-- 'laws.FnExactPartOf': WHATEVER THE INPUT: true; the input reads as it did. -/
def fnExactPartOfSpec : ChangeSpec := { name := "fnExactPartOf", fn := fun _ => fun
  | [d1, d2] => { results := [.lit (.bool true)], args := [d1, d2] }
  | _ => none }
def fnExactPartOfRow : OpenClaim := { program := "ytogiooecjfnkcaa", sum := "a331c232346e9961c72f2b0938a826c09973acab5d61269377ed4bcabb71c74c", func := "loop.example/ordersthatbranch/laws.FnExactPartOf", spec := "fnExactPartOf", unfollowed := true, recurses := true, apart := false }
def FnExactPartOfSaid : Prop := fnExactPartOfRow.holds Try.pinned (OpenSpec.ofChange fnExactPartOfSpec)

/-- ITS FALSE NEIGHBOUR: 'it returns false'. Refute it at one input. -/
def fnExactPartOfWrong : ChangeSpec := { name := "fnExactPartOf", fn := fun _ => fun
  | [d1, d2] => { results := [.lit (.bool false)], args := [d1, d2] }
  | _ => none }
def FnExactPartOfWrongFalsely : Prop := fnExactPartOfRow.holds Try.pinned (OpenSpec.ofChange fnExactPartOfWrong)

/-- 'laws.FnExactCutsOf': WHATEVER THE INPUT: true; the input reads as it did. -/
def fnExactCutsOfSpec : ChangeSpec := { name := "fnExactCutsOf", fn := fun _ => fun
  | [d] => { results := [.lit (.bool true)], args := [d] }
  | _ => none }
def fnExactCutsOfRow : OpenClaim := { program := "ytogiooecjfnkcaa", sum := "a331c232346e9961c72f2b0938a826c09973acab5d61269377ed4bcabb71c74c", func := "loop.example/ordersthatbranch/laws.FnExactCutsOf", spec := "fnExactCutsOf", unfollowed := true, recurses := true, apart := false }
def FnExactCutsOfSaid : Prop := fnExactCutsOfRow.holds Try.pinned (OpenSpec.ofChange fnExactCutsOfSpec)

/-- ITS FALSE NEIGHBOUR: 'it returns false'. Refute it at one input. -/
def fnExactCutsOfWrong : ChangeSpec := { name := "fnExactCutsOf", fn := fun _ => fun
  | [d] => { results := [.lit (.bool false)], args := [d] }
  | _ => none }
def FnExactCutsOfWrongFalsely : Prop := fnExactCutsOfRow.holds Try.pinned (OpenSpec.ofChange fnExactCutsOfWrong)

/-- 'laws.FnValidOrder': WHATEVER THE INPUT: true; the input reads as it did. -/
def fnValidOrderSpec : ChangeSpec := { name := "fnValidOrder", fn := fun _ => fun
  | [d] => { results := [.lit (.bool true)], args := [d] }
  | _ => none }
def fnValidOrderRow : OpenClaim := { program := "ytogiooecjfnkcaa", sum := "a331c232346e9961c72f2b0938a826c09973acab5d61269377ed4bcabb71c74c", func := "loop.example/ordersthatbranch/laws.FnValidOrder", spec := "fnValidOrder", unfollowed := true, recurses := true, apart := false }
def FnValidOrderSaid : Prop := fnValidOrderRow.holds Try.pinned (OpenSpec.ofChange fnValidOrderSpec)

/-- ITS FALSE NEIGHBOUR: 'it returns false'. Refute it at one input. -/
def fnValidOrderWrong : ChangeSpec := { name := "fnValidOrder", fn := fun _ => fun
  | [d] => { results := [.lit (.bool false)], args := [d] }
  | _ => none }
def FnValidOrderWrongFalsely : Prop := fnValidOrderRow.holds Try.pinned (OpenSpec.ofChange fnValidOrderWrong)

/-- 'laws.FnSinglesOf': WHATEVER THE INPUT: true; the input reads as it did. -/
def fnSinglesOfSpec : ChangeSpec := { name := "fnSinglesOf", fn := fun _ => fun
  | [d] => { results := [.lit (.bool true)], args := [d] }
  | _ => none }
def fnSinglesOfRow : OpenClaim := { program := "ytogiooecjfnkcaa", sum := "a331c232346e9961c72f2b0938a826c09973acab5d61269377ed4bcabb71c74c", func := "loop.example/ordersthatbranch/laws.FnSinglesOf", spec := "fnSinglesOf", unfollowed := true, recurses := true, apart := false }
def FnSinglesOfSaid : Prop := fnSinglesOfRow.holds Try.pinned (OpenSpec.ofChange fnSinglesOfSpec)

/-- ITS FALSE NEIGHBOUR: 'it returns false'. Refute it at one input. -/
def fnSinglesOfWrong : ChangeSpec := { name := "fnSinglesOf", fn := fun _ => fun
  | [d] => { results := [.lit (.bool false)], args := [d] }
  | _ => none }
def FnSinglesOfWrongFalsely : Prop := fnSinglesOfRow.holds Try.pinned (OpenSpec.ofChange fnSinglesOfWrong)

/-- 'laws.FnPartOf': WHATEVER THE INPUT: true; the input reads as it did. -/
def fnPartOfSpec : ChangeSpec := { name := "fnPartOf", fn := fun _ => fun
  | [d] => { results := [.lit (.bool true)], args := [d] }
  | _ => none }
def fnPartOfRow : OpenClaim := { program := "ytogiooecjfnkcaa", sum := "a331c232346e9961c72f2b0938a826c09973acab5d61269377ed4bcabb71c74c", func := "loop.example/ordersthatbranch/laws.FnPartOf", spec := "fnPartOf", unfollowed := true, recurses := true, apart := false }
def FnPartOfSaid : Prop := fnPartOfRow.holds Try.pinned (OpenSpec.ofChange fnPartOfSpec)

/-- ITS FALSE NEIGHBOUR: 'it returns false'. Refute it at one input. -/
def fnPartOfWrong : ChangeSpec := { name := "fnPartOf", fn := fun _ => fun
  | [d] => { results := [.lit (.bool false)], args := [d] }
  | _ => none }
def FnPartOfWrongFalsely : Prop := fnPartOfRow.holds Try.pinned (OpenSpec.ofChange fnPartOfWrong)

/- THE SECOND FORM. 'bulk': how many values and letters a reading holds, each counted each time it is reached (what is shared counts as often as it is met; a slice's spare places count too). A statement '..UptoSaid' is the law's where the arguments, and the package variables that the reading takes, are together of bulk at most 1048576: NARROWER than '..Said'. Prove '..Said' where nothing that the law and all that it calls make is longer than what came in: it says more and counts as full. Else prove '..UptoSaid'. A law counts once. -/
mutual
def uptoBulk {H : Type} : DataW H → Nat
  | .lit (.string bytes) => bytes.length + 1
  | .lit _ => 1
  | .nil => 1
  | .ptr d => uptoBulk d + 1
  | .slice elems spare => uptoBulkAll elems + uptoBulkAll spare + 1
  | .agg parts => uptoBulkAll parts + 1
  | .iface _ d => uptoBulk d + 1
  | .map entries => uptoBulkEntries entries + 1
  | .held _ => 1
def uptoBulkAll {H : Type} : List (DataW H) → Nat
  | [] => 0
  | d :: r => uptoBulk d + uptoBulkAll r
def uptoBulkEntries {H : Type} : List (Lit × DataW H) → Nat
  | [] => 0
  | x :: r => uptoBulkEntry x + uptoBulkEntries r
def uptoBulkEntry {H : Type} : Lit × DataW H → Nat
  | (.string bytes, d) => bytes.length + uptoBulk d + 1
  | (_, d) => uptoBulk d + 1
 end
def uptoSmall : (H : Type) → List (DataW H) → Bool := fun _ ds => decide (uptoBulkAll ds ≤ 1048576)
def OpenSpec.upto (s : _root_.Go.ChangeSpec) : _root_.Go.OpenSpec := { _root_.Go.OpenSpec.ofChange s with cond := some uptoSmall }

/-- 'laws.FnExactSinglesOf', WHERE WHAT IT READS IS OF BULK AT MOST 1048576: true; the input reads as it did. -/
def fnExactSinglesOfUptoRow : OpenClaim := { program := "ytogiooecjfnkcaa", sum := "a331c232346e9961c72f2b0938a826c09973acab5d61269377ed4bcabb71c74c", func := "loop.example/ordersthatbranch/laws.FnExactSinglesOf", spec := "fnExactSinglesOf", unfollowed := true, recurses := true, apart := false, narrowed := true }
def FnExactSinglesOfUptoSaid : Prop := fnExactSinglesOfUptoRow.holds Try.pinned (OpenSpec.upto fnExactSinglesOfSpec)

/-- 'laws.FnExactPartOf', WHERE WHAT IT READS IS OF BULK AT MOST 1048576: true; the input reads as it did. -/
def fnExactPartOfUptoRow : OpenClaim := { program := "ytogiooecjfnkcaa", sum := "a331c232346e9961c72f2b0938a826c09973acab5d61269377ed4bcabb71c74c", func := "loop.example/ordersthatbranch/laws.FnExactPartOf", spec := "fnExactPartOf", unfollowed := true, recurses := true, apart := false, narrowed := true }
def FnExactPartOfUptoSaid : Prop := fnExactPartOfUptoRow.holds Try.pinned (OpenSpec.upto fnExactPartOfSpec)

/-- 'laws.FnExactCutsOf', WHERE WHAT IT READS IS OF BULK AT MOST 1048576: true; the input reads as it did. -/
def fnExactCutsOfUptoRow : OpenClaim := { program := "ytogiooecjfnkcaa", sum := "a331c232346e9961c72f2b0938a826c09973acab5d61269377ed4bcabb71c74c", func := "loop.example/ordersthatbranch/laws.FnExactCutsOf", spec := "fnExactCutsOf", unfollowed := true, recurses := true, apart := false, narrowed := true }
def FnExactCutsOfUptoSaid : Prop := fnExactCutsOfUptoRow.holds Try.pinned (OpenSpec.upto fnExactCutsOfSpec)

/-- 'laws.FnValidOrder', WHERE WHAT IT READS IS OF BULK AT MOST 1048576: true; the input reads as it did. -/
def fnValidOrderUptoRow : OpenClaim := { program := "ytogiooecjfnkcaa", sum := "a331c232346e9961c72f2b0938a826c09973acab5d61269377ed4bcabb71c74c", func := "loop.example/ordersthatbranch/laws.FnValidOrder", spec := "fnValidOrder", unfollowed := true, recurses := true, apart := false, narrowed := true }
def FnValidOrderUptoSaid : Prop := fnValidOrderUptoRow.holds Try.pinned (OpenSpec.upto fnValidOrderSpec)

/-- 'laws.FnSinglesOf', WHERE WHAT IT READS IS OF BULK AT MOST 1048576: true; the input reads as it did. -/
def fnSinglesOfUptoRow : OpenClaim := { program := "ytogiooecjfnkcaa", sum := "a331c232346e9961c72f2b0938a826c09973acab5d61269377ed4bcabb71c74c", func := "loop.example/ordersthatbranch/laws.FnSinglesOf", spec := "fnSinglesOf", unfollowed := true, recurses := true, apart := false, narrowed := true }
def FnSinglesOfUptoSaid : Prop := fnSinglesOfUptoRow.holds Try.pinned (OpenSpec.upto fnSinglesOfSpec)

/-- 'laws.FnPartOf', WHERE WHAT IT READS IS OF BULK AT MOST 1048576: true; the input reads as it did. -/
def fnPartOfUptoRow : OpenClaim := { program := "ytogiooecjfnkcaa", sum := "a331c232346e9961c72f2b0938a826c09973acab5d61269377ed4bcabb71c74c", func := "loop.example/ordersthatbranch/laws.FnPartOf", spec := "fnPartOf", unfollowed := true, recurses := true, apart := false, narrowed := true }
def FnPartOfUptoSaid : Prop := fnPartOfUptoRow.holds Try.pinned (OpenSpec.upto fnPartOfSpec)

end Rows
end Go.Proofs.Ytogiooecjfnkcaa
