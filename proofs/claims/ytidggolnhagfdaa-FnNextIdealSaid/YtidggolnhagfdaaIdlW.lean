/- Ideals: both sides. -/
import Derived.Test.YtidggolnhagfdaaIdlS
import Derived.Test.YtidggolnhagfdaaGb
namespace Go.Proofs.Ytidggolnhagfdaa
end Go.Proofs.Ytidggolnhagfdaa
