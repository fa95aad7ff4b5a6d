/- 'isNext': no item between two items. -/
import Derived.Test.YtidggolnhagfdaaDoorRead
namespace Go.Proofs.YtidggolnhagfdaaDoor
open Go.RowKit Go.Shelf
attribute [local go_sem] Oper.semAt_some
attribute [local go_sem, local simp] wide_fn

def nextB (zs : List Int) (lo hi : Nat) : Bool := (itemsL (zs[lo]?.getD 0)).all fun x => !bitB (zs[x]?.getD 0) hi
theorem nextB_not {zs : List Int} {lo hi : Nat} {pre : List Nat} {x : Nat} (hp : pre ++ [x] <+: itemsL (zs[lo]?.getD 0)) (h : bitB (zs[x]?.getD 0) hi = true) : nextB zs lo hi = false := by
  obtain ⟨t, ht⟩ := hp
  unfold nextB
  rw [← ht]
  simp [h]

end Go.Proofs.YtidggolnhagfdaaDoor
