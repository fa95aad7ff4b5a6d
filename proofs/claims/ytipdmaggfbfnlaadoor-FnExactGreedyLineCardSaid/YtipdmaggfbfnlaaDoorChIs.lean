/- IsChain and IsApart: the model's and the program's. -/
import Derived.Test.YtipdmaggfbfnlaaDoorChSp
import Derived.Test.YtipdmaggfbfnlaaDoorCnt
set_option linter.unusedVariables false
set_option linter.unusedSimpArgs false
namespace Go.Proofs.YtipdmaggfbfnlaaDoor
open Go.RowKit

def isChainR (zs : List Int) (s : Int) : Bool := (vo zs && inB s 0 (powI zs.length - 1)) && chB zs s
def isApartR (zs : List Int) (s : Int) : Bool := (vo zs && inB s 0 (powI zs.length - 1)) && apB zs s

end Go.Proofs.YtipdmaggfbfnlaaDoor
