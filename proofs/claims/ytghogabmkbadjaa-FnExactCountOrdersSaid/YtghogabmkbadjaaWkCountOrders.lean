/- The walk of the exact law of CountOrders. -/
import Derived.Test.YtghogabmkbadjaaAoP
import Derived.Test.YtghogabmkbadjaaGa
set_option linter.unusedVariables false
set_option linter.unusedSimpArgs false
namespace Go.Proofs.Ytghogabmkbadjaa
open Go.RowKit

set_option maxHeartbeats 1000000 in
theorem exactCountOrders_walk (s : Int) (w : World) :
    Calls Try.prog 8 #[.int .i64 s] w fun e w' => e = .returned (.bool true) ∧ Below w.heap.size w w' := by
  go_enter Try.func8, Try.ntmps8
  go_wp2_with fail
  refine (specCountOrdersF_any s _).mono ?_
  rintro e w2 ⟨rfl, hB2⟩
  have z2 := hB2.size
  go_wp2_with fail
  refine (CountOrders_any s _).mono ?_
  rintro e w4 ⟨rfl, hB4⟩
  have C4 := hB2.trans (hB4.mono z2)
  have hne : (coR s != coR s) = false := by simp
  go_wp2_with fail
  go_ret
  exact ⟨rfl, C4⟩
end Go.Proofs.Ytghogabmkbadjaa
