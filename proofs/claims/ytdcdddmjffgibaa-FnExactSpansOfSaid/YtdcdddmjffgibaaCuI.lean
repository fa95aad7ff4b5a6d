/- What all of a set have above them: the program's. -/
import Derived.Test.YtdcdddmjffgibaaJoM
import Derived.Test.YtdcdddmjffgibaaGb
import Derived.Test.YtdcdddmjffgibaaGa
namespace Go.Proofs.Ytdcdddmjffgibaa
open Go.RowKit Go.Shelf
attribute [local go_sem] Oper.semAt_some
attribute [local go_sem, local simp] wide_fn

end Go.Proofs.Ytdcdddmjffgibaa
