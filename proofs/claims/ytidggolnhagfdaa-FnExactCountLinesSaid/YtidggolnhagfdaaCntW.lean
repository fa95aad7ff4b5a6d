/- CountLines: both sides. -/
import Derived.Test.YtidggolnhagfdaaCntI
import Derived.Test.YtidggolnhagfdaaCntS
namespace Go.Proofs.Ytidggolnhagfdaa
end Go.Proofs.Ytidggolnhagfdaa
