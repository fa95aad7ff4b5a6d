/- The model's test of sets. -/
import Derived.Test.YtidggolnhagfdaaDoorHelp
import Derived.Test.YtidggolnhagfdaaDoorValid
namespace Go.Proofs.YtidggolnhagfdaaDoor
open Go.RowKit Go.Shelf
attribute [local go_sem] Oper.semAt_some
attribute [local go_sem, local simp] wide_fn
end Go.Proofs.YtidggolnhagfdaaDoor
