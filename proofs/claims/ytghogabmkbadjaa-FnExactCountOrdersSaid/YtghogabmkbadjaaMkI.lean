/- Marks and ideals: the program's. -/
import Derived.Test.YtghogabmkbadjaaMk6
set_option linter.unusedVariables false
set_option linter.unusedSimpArgs false
namespace Go.Proofs.Ytghogabmkbadjaa
open Go.RowKit Go.Shelf
attribute [local go_sem] Oper.semAt_some
attribute [local go_sem, local simp] wide_fn

/-- What is marked when the items of a list are over. -/
def mkL (l : List Nat) : Int := l.foldl (fun (t : Int) (i : Nat) => orI t (powI i)) 0
theorem mkL_snoc (l : List Nat) (i : Nat) : mkL (l ++ [i]) = orI (mkL l) (powI i) := by simp [mkL]
theorem mkL_fin : ∀ k : Fin 64, mkL (itemsL (k.val : Int)) = (k.val : Int) := by decide +kernel
theorem mkL_all {s : Int} (h0 : 0 ≤ s) (h1 : s < 64) : mkL (itemsL s) = s := by
  obtain ⟨k, rfl⟩ := Int.eq_ofNat_of_zero_le h0
  exact mkL_fin ⟨k, by omega⟩

section
variable {w w' : World} {b : Nat} {s : Int} {R : Nat → Prop}
end

/-- The items less than k of a set. -/
def upTo (s : Int) (k : Nat) : Int := mkL (itemsTo s k)
theorem upTo_yes {s : Int} {k : Nat} (h : bitB s k = true) : upTo s (k + 1) = orI (upTo s k) (powI k) := by unfold upTo; rw [itemsTo_yes h, mkL_snoc]
theorem upTo_no {s : Int} {k : Nat} (h : bitB s k = false) : upTo s (k + 1) = upTo s k := by unfold upTo; rw [itemsTo_no h]
theorem upTo_bd (s : Int) : ∀ k : Nat, 0 ≤ upTo s k ∧ upTo s k < powI k
  | 0 => by simp [upTo, itemsTo, mkL, powI]
  | k + 1 => by
    have ih := upTo_bd s k
    have hp : powI (k : Int) < powI ((k + 1 : Nat) : Int) := powI_lt (by omega)
    cases h : bitB s k
    · rw [upTo_no h]; omega
    · rw [upTo_yes h]; exact orI_bd ih.1 (by omega) (Int.le_of_lt (powI_pos _)) hp

end Go.Proofs.Ytghogabmkbadjaa
