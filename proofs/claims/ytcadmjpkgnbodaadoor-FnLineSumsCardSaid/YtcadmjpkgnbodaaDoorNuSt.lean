/- Numberings: the model's counts, growing upward. -/
import Derived.Test.YtcadmjpkgnbodaaDoorGc
import Derived.Test.YtcadmjpkgnbodaaDoorGa
import Derived.Test.YtcadmjpkgnbodaaDoorGd
namespace Go.Proofs.YtcadmjpkgnbodaaDoor
open Go.RowKit Go.Shelf
attribute [local go_sem] Oper.semAt_some
attribute [local go_sem, local simp] wide_fn

end Go.Proofs.YtcadmjpkgnbodaaDoor
