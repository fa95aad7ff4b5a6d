/- LineRank: the program's. -/
import Derived.Test.YtbhnkjclemeolaaGb
import Derived.Test.YtbhnkjclemeolaaLCnt
import Derived.Test.YtbhnkjclemeolaaIsLineI
set_option linter.unusedVariables false
set_option linter.unusedSimpArgs false
namespace Go.Proofs.Ytbhnkjclemeolaa
open Go.RowKit Go.Shelf
attribute [local go_sem] Oper.semAt_some
attribute [local go_sem, local simp] wide_fn

end Go.Proofs.Ytbhnkjclemeolaa
