/- The longest chain and the widest set apart: words, and the model's helper. -/
import Derived.Test.YtghogabmkbadjaaGc
import Derived.Test.YtghogabmkbadjaaCnt
set_option linter.unusedVariables false
set_option linter.unusedSimpArgs false
namespace Go.Proofs.Ytghogabmkbadjaa
open Go.RowKit

theorem maxL_snoc (f : Nat → Int) (l : List Nat) (a : Nat) : maxL f (l ++ [a]) = max (maxL f l) (f a + 1) := by simp [maxL]
theorem maxL_range (f : Nat → Int) (k : Nat) : maxL f (List.range (k + 1)) = max (maxL f (List.range k)) (f k + 1) := by rw [List.range_succ, maxL_snoc]
theorem hgts_get {zs : List Int} {n k : Nat} (hk : k < n) : ((List.range n).map (hgt zs))[k]?.getD 0 = hgt zs k := by simp [hk]

def longR (zs : List Int) : Int := if vo zs then longI zs else -1
def wideR (zs : List Int) : Int := if vo zs then grTo (apB zs) (setsN zs) else -1
end Go.Proofs.Ytghogabmkbadjaa
