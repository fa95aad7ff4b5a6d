/- IdealsOf: the model's and the program's. -/
import Derived.Test.YtghogabmkbadjabIdlW
import Derived.Test.YtghogabmkbadjabGb
import Derived.Test.YtghogabmkbadjabCnt
set_option linter.unusedVariables false
set_option linter.unusedSimpArgs false
namespace Go.Proofs.Ytghogabmkbadjab
open Go.RowKit Go.Shelf
attribute [local go_sem] Oper.semAt_some
attribute [local go_sem, local simp] wide_fn

theorem idealsR_le (zs : List Int) : (idealsR zs).length ≤ 1048576 := by
  unfold idealsR
  cases hv : vo zs
  · simp
  · have hvo : VoP zs := by simpa [vo] using hv
    have h1 : (2 : Nat) ^ zs.length ≤ 2 ^ 6 := Nat.pow_le_pow_right (by decide) hvo.1
    have h2 := setsTo_len (idB zs) (2 ^ zs.length)
    simp only [if_true]
    omega
end Go.Proofs.Ytghogabmkbadjab
