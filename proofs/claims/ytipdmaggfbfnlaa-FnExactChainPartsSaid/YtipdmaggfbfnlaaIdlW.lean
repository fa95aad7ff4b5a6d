/- Ideals: both sides. -/
import Derived.Test.YtipdmaggfbfnlaaGb
import Derived.Test.YtipdmaggfbfnlaaIdlI
set_option linter.unusedVariables false
set_option linter.unusedSimpArgs false
namespace Go.Proofs.Ytipdmaggfbfnlaa
end Go.Proofs.Ytipdmaggfbfnlaa
