/- How many items a set has, as the laws see it. -/
import Derived.Test.YtcadmjpkgnbodaaGb
namespace Go.Proofs.Ytcadmjpkgnbodaa
open Go.RowKit

def sizeTo (s : Int) : Nat → Int
  | 0 => 0
  | k + 1 => sizeTo s k + bitI s k
theorem sizeTo_fin : ∀ k : Fin 64, sizeTo (k.val : Int) 62 = popI (k.val : Int) := by decide +kernel
theorem sizeTo_bd (s : Int) : ∀ k : Nat, 0 ≤ sizeTo s k ∧ sizeTo s k ≤ k
  | 0 => ⟨Int.le_refl _, Int.le_refl _⟩
  | k + 1 => by
    have h1 := sizeTo_bd s k
    have h2 := bitI_01 s k
    unfold sizeTo
    omega
end Go.Proofs.Ytcadmjpkgnbodaa
