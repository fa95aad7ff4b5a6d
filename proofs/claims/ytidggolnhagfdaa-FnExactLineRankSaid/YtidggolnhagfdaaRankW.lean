/- LineRank: both sides. -/
import Derived.Test.YtidggolnhagfdaaRankS
import Derived.Test.YtidggolnhagfdaaRankI
namespace Go.Proofs.Ytidggolnhagfdaa
end Go.Proofs.Ytidggolnhagfdaa
