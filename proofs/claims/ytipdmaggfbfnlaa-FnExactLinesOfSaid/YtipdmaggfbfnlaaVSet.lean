/- The model's test of sets. -/
import Derived.Test.YtipdmaggfbfnlaaHelp
import Derived.Test.YtipdmaggfbfnlaaValid
set_option linter.unusedVariables false
set_option linter.unusedSimpArgs false
namespace Go.Proofs.Ytipdmaggfbfnlaa
open Go.RowKit Go.Shelf
attribute [local go_sem] Oper.semAt_some
attribute [local go_sem, local simp] wide_fn
end Go.Proofs.Ytipdmaggfbfnlaa
