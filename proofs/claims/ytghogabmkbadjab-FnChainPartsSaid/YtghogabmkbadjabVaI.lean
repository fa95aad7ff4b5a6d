/- slices.Values over a list of sets: an iterator. -/
import Derived.Test.YtghogabmkbadjabPw
set_option linter.unusedVariables false
set_option linter.unusedSimpArgs false
namespace Go.Proofs.Ytghogabmkbadjab
open Go.RowKit Go.Shelf
attribute [local go_sem] Oper.semAt_some

theorem take_step {L : List Nat} {k : Nat} (hk : k < L.length) : L.take (k + 1) = L.take k ++ [L[k]?.getD 0] ∧ L.take k ++ [L[k]?.getD 0] <+: L := by
  have e : L.take (k + 1) = L.take k ++ [L[k]?.getD 0] := by rw [List.take_succ_eq_append_getElem hk, List.getElem?_eq_getElem hk]; rfl
  exact ⟨e, e ▸ List.take_prefix _ _⟩

end Go.Proofs.Ytghogabmkbadjab
