/- What all of a set have above them, and cuts: the model's; the program's of a set. -/
import Derived.Test.YtmlihbcffndnbabDoorGxe
import Derived.Test.YtmlihbcffndnbabDoorGa
import Derived.Test.YtmlihbcffndnbabDoorGc
import Derived.Test.YtmlihbcffndnbabDoorLineI
set_option linter.unusedVariables false
set_option linter.unusedSimpArgs false
namespace Go.Proofs.YtmlihbcffndnbabDoor
open Go.RowKit Go.Shelf
attribute [local go_sem] Oper.semAt_some
attribute [local go_sem, local simp] wide_fn

theorem cutI_is {zs : List Int} {n : Nat} (h : zs.length = n) (s : Int) : comTo (du zs) (comTo zs s n) n = cutI zs s := by subst h; rfl

end Go.Proofs.YtmlihbcffndnbabDoor
