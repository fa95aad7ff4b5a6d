/- HeightsOf: the model's and the program's. -/
import Derived.Test.YtogiooecjfnkcaaHgt
import Derived.RegionTactic
import Derived.BigRegion
namespace Go.Proofs.Ytogiooecjfnkcaa
open Go.RowKit Go.Shelf
attribute [local go_sem] Oper.semAt_some
attribute [local go_sem, local simp] wide_fn

theorem swaps_snoc (ps : List (Nat × Nat)) (a b : Nat) : swaps (ps ++ [(a, b)]) = swaps ps ++ [(b, a)] := by simp [swaps]

end Go.Proofs.Ytogiooecjfnkcaa
