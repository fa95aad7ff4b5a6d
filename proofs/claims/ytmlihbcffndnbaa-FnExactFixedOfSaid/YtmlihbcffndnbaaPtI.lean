/- PartOf: the model's and the program's. -/
import Derived.Test.YtmlihbcffndnbaaGxc
import Derived.Test.YtmlihbcffndnbaaGa
import Derived.Test.YtmlihbcffndnbaaRestS
set_option linter.unusedVariables false
set_option linter.unusedSimpArgs false
namespace Go.Proofs.Ytmlihbcffndnbaa
open Go.RowKit Go.Shelf
attribute [local go_sem] Oper.semAt_some
attribute [local go_sem, local simp] wide_fn

theorem plN_le {s a : Nat} (hs : s < 64) (ha : a ≤ 6) : plN s a ≤ 6 := by
  rw [plN_is hs ha]
  unfold leftL
  have := List.length_filter_le (fun j => s.testBit j) (List.range a)
  rw [List.length_range] at this
  omega
theorem left_items {n s : Nat} (hn : n ≤ 6) (hs : s < 2 ^ n) : itemsL (s : Int) = leftL n s := by
  rw [← itemsTo_all (n := n) (by unfold powI; simp; exact_mod_cast hs) hn]
  unfold itemsTo leftL
  exact List.filter_congr fun j _ => bit_cast s j

end Go.Proofs.Ytmlihbcffndnbaa
