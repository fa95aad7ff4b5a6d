/- Ideals: the model's. -/
import Derived.Test.YtdcdddmjffgibaaGb
import Derived.Test.YtdcdddmjffgibaaGa
namespace Go.Proofs.Ytdcdddmjffgibaa
open Go.RowKit Go.Shelf
attribute [local go_sem] Oper.semAt_some
attribute [local go_sem, local simp] wide_fn

end Go.Proofs.Ytdcdddmjffgibaa
