/- The model's tests of chains and of sets apart. -/
import Derived.Test.YtghogabmkbadjaaGa
import Derived.Test.YtghogabmkbadjaaListOf
set_option linter.unusedVariables false
set_option linter.unusedSimpArgs false
namespace Go.Proofs.Ytghogabmkbadjaa
open Go.RowKit

theorem relB_comm (zs : List Int) (a b : Nat) : relB zs a b = relB zs b a := by unfold relB; rw [Bool.or_comm]
/-- The item at place a of a set. -/
def itAt (s : Int) (a : Nat) : Nat := (itemsL s)[a]?.getD 0
theorem itAt_mem {s : Int} {a : Nat} (ha : a < (itemsL s).length) : itAt s a ∈ itemsL s := by
  unfold itAt; rw [List.getElem?_eq_getElem ha]; exact List.getElem_mem ha
theorem itAt_cast {s : Int} {a : Nat} (ha : a < (itemsL s).length) : (((itemsL s).map fun x : Nat => (x : Int))[a]?.getD 0) = (itAt s a : Int) := by
  unfold itAt; rw [List.getElem?_map, List.getElem?_eq_getElem ha]; rfl
theorem itAt_lt {n : Nat} {s : Int} {a : Nat} (hn : n ≤ 6) (h1 : s < powI n) (ha : a < (itemsL s).length) : itAt s a < n := by
  have hpn := powI_le6 (n := (n : Int)) (by omega)
  exact bitB_lt h1 ((mem_itemsL (by omega)).1 (itAt_mem ha))
theorem chB_of {zs : List Int} {s : Int} (h : ∀ a, a < (itemsL s).length → ∀ b, b < a → relB zs (itAt s a) (itAt s b) = true) : chB zs s = true := by
  unfold chB
  rw [decide_eq_true_eq]
  refine List.pairwise_iff_getElem.2 fun i j hi hj hij => ?_
  have := h j hj i hij
  rw [relB_comm] at this
  simpa [itAt, hi, hj] using this
theorem chB_not {zs : List Int} {s : Int} {a b : Nat} (ha : a < (itemsL s).length) (hb : b < a) (h : relB zs (itAt s a) (itAt s b) = false) : chB zs s = false := by
  unfold chB
  rw [decide_eq_false_iff_not]
  intro hc
  have := List.pairwise_iff_getElem.1 hc b a (by omega) ha hb
  rw [relB_comm] at this
  simp [itAt, ha, Nat.lt_trans hb ha] at h
  simp [h] at this
theorem apB_of {zs : List Int} {s : Int} (h : ∀ a, a < (itemsL s).length → (andI (zs[itAt s a]?.getD 0) s == 0) = true) : apB zs s = true := by
  unfold apB
  rw [List.all_eq_true]
  intro x hx
  obtain ⟨i, hi, rfl⟩ := List.getElem_of_mem hx
  have := h i hi
  simpa [itAt, hi] using this
theorem apB_not {zs : List Int} {s : Int} {a : Nat} (ha : a < (itemsL s).length) (h : (andI (zs[itAt s a]?.getD 0) s == 0) = false) : apB zs s = false := by
  unfold apB
  cases hc : (itemsL s).all fun a => andI (zs[a]?.getD 0) s == 0 with
  | false => rfl
  | true => rw [List.all_eq_true.1 hc _ (itAt_mem ha)] at h; cases h

end Go.Proofs.Ytghogabmkbadjaa
