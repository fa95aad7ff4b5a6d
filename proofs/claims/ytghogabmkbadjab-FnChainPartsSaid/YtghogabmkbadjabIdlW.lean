/- Ideals: both sides. -/
import Derived.Test.YtghogabmkbadjabGc
import Derived.Test.YtghogabmkbadjabIdlI
set_option linter.unusedVariables false
set_option linter.unusedSimpArgs false
namespace Go.Proofs.Ytghogabmkbadjab
end Go.Proofs.Ytghogabmkbadjab
