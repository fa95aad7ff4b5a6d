/- The model's test of sets. -/
import Derived.Test.YtipdmaggfbfnlaaHelp
import Derived.Test.YtipdmaggfbfnlaaValid
namespace Go.Proofs.Ytipdmaggfbfnlaa
open Go.RowKit Go.Shelf
attribute [local go_sem] Oper.semAt_some
attribute [local go_sem, local simp] wide_fn
end Go.Proofs.Ytipdmaggfbfnlaa
