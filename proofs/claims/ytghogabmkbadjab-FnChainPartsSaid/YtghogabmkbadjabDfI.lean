/- slices.AppendSeq, Collect over an iterator of sets; slices.Sorted; the different sets of a list: the program's. -/
import Derived.Lib.SlicesCompact
import Derived.Test.YtghogabmkbadjabVaI
import Derived.Test.YtghogabmkbadjabCloI
import Derived.Test.YtghogabmkbadjabShl
import Derived.Test.YtghogabmkbadjabGb
import Derived.Test.YtghogabmkbadjabIdls
set_option linter.unusedVariables false
set_option linter.unusedSimpArgs false
namespace Go.Proofs.Ytghogabmkbadjab
open Go.RowKit Go.Shelf
attribute [local go_sem] Oper.semAt_some
attribute [local go_sem, local simp] wide_fn

def castL (l : List Nat) : List Int := l.map fun x : Nat => (x : Int)
theorem castL_snoc (l : List Nat) (x : Nat) : castL (l ++ [x]) = castL l ++ [(x : Int)] := by simp [castL]
theorem castL_len (l : List Nat) : (castL l).length = l.length := by simp [castL]

/-! slices.Sort and Compact, by the shelf's contracts, over a row of the call's own. -/
theorem putRow_upd (w : World) (g off : Nat) (d : Array Int) : Upd (fun k => k = g) w (Sort.putRow (Value.int .i64) w g off d) := by
  refine ⟨rfl, rfl, rfl, by simp [Sort.putRow, Sort.mapBlock], fun k hk hr => ?_⟩
  simp only [Sort.putRow, Sort.mapBlock, Array.getElem?_modify]
  rw [if_neg (fun e => hr e.symm)]
theorem ahead_upd (w : World) (n : Nat) : Upd (fun _ => False) w (Sort.ahead w n) := by
  first | exact (Upd.refl _ w).drewN n | (unfold Sort.ahead; exact (Upd.refl _ w).drewN n)
theorem grow_upd (w : World) (os : Array Obj) : Upd (fun _ => False) w (Sort.grow w os) := by
  refine ⟨rfl, rfl, rfl, by simp [Sort.grow], fun k hk _ => ?_⟩
  simp only [Sort.grow]
  exact Array.getElem?_append_left hk
theorem holds_of_cells {w : World} {g : Nat} {xs : List Int} (hc : ∀ j, j < xs.length → w.cell? ⟨g, j, none⟩ = some (.int .i64 (xs[j]?.getD 0))) (hf : ∀ j, w.frozen? ⟨g, j, none⟩ = false) : Sort.Holds (Value.int .i64) w g 0 xs.toArray := by
  intro j hj
  have hj' : j < xs.length := by simpa using hj
  refine ⟨?_, by rw [Nat.zero_add]; exact hf j⟩
  rw [Nat.zero_add, hc j hj', List.getElem?_eq_getElem hj']
  simp [hj']
/-- The different sets of a list, ascending. -/
def difA (zs : List Int) : List Int := Lib.compact (zs.mergeSort fun x y => decide (x ≤ y))
end Go.Proofs.Ytghogabmkbadjab
