/- Copies of rows of rows, and their sizes. -/
import Derived.Test.YtipdmaggfbfnlaaMarks
import Derived.Test.YtipdmaggfbfnlaaAppend
set_option linter.unusedVariables false
set_option linter.unusedSimpArgs false
namespace Go.Proofs.Ytipdmaggfbfnlaa
open Go.RowKit

theorem RowsC.sooner' {w : World} : ∀ {lo lo' hi : Nat} {vs : List Value} {rs : List (List Int)}, RowsC w lo hi vs rs → lo' ≤ lo → RowsC w lo' hi vs rs
  | _, _, _, [], [], h, h' => Nat.le_trans h' h
  | _, _, _, _ :: _, _ :: _, ⟨A, c, mid, e, h1, hr, h2⟩, h' => ⟨A, c, mid, e, Nat.le_trans h' h1, hr.more h' (Nat.le_refl _), h2⟩
theorem infoRow4 : ∃ i : TypeInfo, Try.prog.info? 22 = some i ∧ i.zero = some (.slice none 0 0) ∧ i.size = 1 ∧ i.bytes = 24 := by
  have h := infoRow
  cases hi : Try.prog.info? 22 with
  | none => rw [hi] at h; cases h
  | some i =>
    rw [hi] at h
    simp only [Option.map_some, Option.some.injEq, Prod.mk.injEq] at h
    exact ⟨i, rfl, h.1, h.2.1, h.2.2⟩

end Go.Proofs.Ytipdmaggfbfnlaa
