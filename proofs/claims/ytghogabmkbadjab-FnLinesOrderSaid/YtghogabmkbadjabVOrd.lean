/- ValidOrder of the program. -/
import Derived.Test.YtghogabmkbadjabGa
set_option linter.unusedVariables false
set_option linter.unusedSimpArgs false
namespace Go.Proofs.Ytghogabmkbadjab
open Go.RowKit

theorem ValidOrder_any (A : Option Addr) (n c : Nat) (zs : List Int) (w : World) (h : Ints w w.heap.size A n zs) (hbig : n ≤ 1152921504606846976) :
    Calls Try.prog 29 #[.slice A n c] w fun e w' => e = .returned (.bool (vo zs)) ∧ Below w.heap.size w w' := by
  go_enter Try.func29, Try.ntmps29
  go_wp2_with (go_at_call 65; refine (readOrder_any _ _ _ zs _ h hbig).mono ?_; rintro e w' ⟨hB, (⟨hv, b, rfl, _, _⟩ | ⟨hv, rfl⟩)⟩)
  all_goals
    go_ret
    exact ⟨ret_bool hv.symm, hB⟩
end Go.Proofs.Ytghogabmkbadjab
