/- Two pairs apart, three items and one apart: the program's. -/
import Derived.Test.YtghogabmkbadjaaTwM
import Derived.Test.YtghogabmkbadjaaLineI
import Derived.Test.YtghogabmkbadjaaGa
import Derived.Test.YtghogabmkbadjaaMkI
import Derived.Test.YtghogabmkbadjaaGc
set_option linter.unusedVariables false
set_option linter.unusedSimpArgs false
namespace Go.Proofs.Ytghogabmkbadjaa
open Go.RowKit Go.Shelf
attribute [local go_sem] Oper.semAt_some
attribute [local go_sem, local simp] wide_fn

theorem zero_or (x : Int) (h : 0 ≤ x) : orI 0 x = x := by unfold orI; simp; omega

end Go.Proofs.Ytghogabmkbadjaa
