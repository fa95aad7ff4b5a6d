/- What all of a set have above them: the program's. -/
import Derived.Test.YtghogabmkbadjabJoM
import Derived.Test.YtghogabmkbadjabLineI
import Derived.Test.YtghogabmkbadjabGa
set_option linter.unusedVariables false
set_option linter.unusedSimpArgs false
namespace Go.Proofs.Ytghogabmkbadjab
open Go.RowKit Go.Shelf
attribute [local go_sem] Oper.semAt_some
attribute [local go_sem, local simp] wide_fn

end Go.Proofs.Ytghogabmkbadjab
