/- Pairings: the program's. -/
import Derived.Test.YtmlihbcffndnbaaDoorGxc
import Derived.Test.YtmlihbcffndnbaaDoorMpI
import Derived.Test.YtmlihbcffndnbaaDoorGxd
import Derived.Test.YtmlihbcffndnbaaDoorGb
set_option linter.unusedVariables false
set_option linter.unusedSimpArgs false
namespace Go.Proofs.YtmlihbcffndnbaaDoor
open Go.RowKit Go.Shelf
attribute [local go_sem] Oper.semAt_some
attribute [local go_sem, local simp] wide_fn

theorem quiet_left0 {P : Program} {f : FuncId} {args : Array Value} {w : World} {n : Nat} {v : Value}
    (h : Calls P f args (w.drewN n) fun e w' => e = .returned v ∧ w.drewN n = w') :
    Calls P f args (w.drewN n) fun e w'' => e = .returned v ∧ ∃ m, w'' = w.drewN m :=
  h.mono fun _ _ ⟨he, hm⟩ => ⟨he, n, hm.symm⟩

/-- A list one way: from, to, list. -/
def wayV (B : Option Addr) (j : Nat) (A : Option Addr) (m : Nat) (F : Option Addr) (k cf : Nat) : Value := .agg #[.slice B j j, .slice A m m, .slice F k cf]
theorem way_eq (B : Option Addr) (j : Nat) (A : Option Addr) (m : Nat) (F : Option Addr) (k cf : Nat) : tkV B j A m F k cf = wayV B j A m F k cf := rfl

/-- A list each way. -/
def prV (B1 : Option Addr) (j1 : Nat) (A1 : Option Addr) (m : Nat) (F : Option Addr) (k cf : Nat) (B2 : Option Addr) (j2 : Nat) (A2 : Option Addr) (n : Nat) (G : Option Addr) (l cg : Nat) : Value :=
  .agg #[.slice B1 j1 j1, .slice A1 m m, .slice F k cf, .slice B2 j2 j2, .slice A2 n n, .slice G l cg]
theorem six_cells {w : World} {b : Nat} {t : TypeId} {x1 x2 x3 x4 x5 x6 : Value} (h : w.heap[b]? = some (.cells #[x1, x2, x3, x4, x5, x6] t (0, 0))) :
    w.cell? ⟨b, 0, none⟩ = some x1 ∧ w.cell? ⟨b, 1, none⟩ = some x2 ∧ w.cell? ⟨b, 2, none⟩ = some x3 ∧ w.cell? ⟨b, 3, none⟩ = some x4 ∧ w.cell? ⟨b, 4, none⟩ = some x5 ∧ w.cell? ⟨b, 5, none⟩ = some x6 := by
  refine ⟨?_, ?_, ?_, ?_, ?_, ?_⟩
  · rw [cell_of_row _ _ 0 _ _ (0, 0) h]; rfl
  · rw [cell_of_row _ _ 1 _ _ (0, 0) h]; rfl
  · rw [cell_of_row _ _ 2 _ _ (0, 0) h]; rfl
  · rw [cell_of_row _ _ 3 _ _ (0, 0) h]; rfl
  · rw [cell_of_row _ _ 4 _ _ (0, 0) h]; rfl
  · rw [cell_of_row _ _ 5 _ _ (0, 0) h]; rfl

end Go.Proofs.YtmlihbcffndnbaaDoor
