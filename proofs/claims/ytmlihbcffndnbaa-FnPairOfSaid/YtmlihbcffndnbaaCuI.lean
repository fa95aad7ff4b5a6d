/- What all of a set have above them: the program's. -/
import Derived.Test.YtmlihbcffndnbaaGxc
import Derived.Test.YtmlihbcffndnbaaLineI
import Derived.Test.YtmlihbcffndnbaaGa
set_option linter.unusedVariables false
set_option linter.unusedSimpArgs false
namespace Go.Proofs.Ytmlihbcffndnbaa
open Go.RowKit Go.Shelf
attribute [local go_sem] Oper.semAt_some
attribute [local go_sem, local simp] wide_fn

end Go.Proofs.Ytmlihbcffndnbaa
