/- The model's test of sets. -/
import Derived.Test.YtliofddiggipfaaHelp
import Derived.Test.YtliofddiggipfaaValid
namespace Go.Proofs.Ytliofddiggipfaa
open Go.RowKit Go.Shelf
attribute [local go_sem] Oper.semAt_some
attribute [local go_sem, local simp] wide_fn
end Go.Proofs.Ytliofddiggipfaa
