/- Ideals: both sides. -/
import Derived.Test.YtidggolnhagfdaaIdlS
import Derived.Test.YtidggolnhagfdaaIdlI
namespace Go.Proofs.Ytidggolnhagfdaa
end Go.Proofs.Ytidggolnhagfdaa
