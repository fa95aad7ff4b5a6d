/- 'listOf': the items of a set. -/
import Derived.Test.YtghogabmkbadjaaCovers
set_option linter.unusedVariables false
set_option linter.unusedSimpArgs false
namespace Go.Proofs.Ytghogabmkbadjaa
open Go.RowKit

/-- Shifted past all items. -/
theorem shr_over {s : Int} {j : Nat} (h0 : 0 ≤ s) : (0 < s / 2 ^ j) ↔ powI j ≤ s := by
  have hp : (0 : Int) < 2 ^ j := Int.pow_pos (by omega)
  unfold powI
  rw [Int.toNat_natCast]
  constructor
  · intro h
    by_cases hs : 2 ^ j ≤ s
    · exact hs
    · rw [Int.ediv_eq_zero_of_lt h0 (by omega)] at h; omega
  · intro h
    exact Int.lt_iff_add_one_le.2 ((Int.le_ediv_iff_mul_le hp).2 (by omega))

end Go.Proofs.Ytghogabmkbadjaa
