/- CoversOf: the model's. -/
import Derived.Test.YtghogabmkbadjaaAppend
import Derived.Test.YtghogabmkbadjaaGb
import Derived.Test.YtghogabmkbadjaaGa
set_option linter.unusedVariables false
set_option linter.unusedSimpArgs false
namespace Go.Proofs.Ytghogabmkbadjaa
open Go.RowKit

/-- What is left of the items above a when what is above the first b of them is taken away. -/
def coverTo (zs : List Int) (a : Nat) : Nat → Int
  | 0 => zs[a]?.getD 0
  | b + 1 => if bitB (zs[a]?.getD 0) b then lessI (coverTo zs a b) (zs[b]?.getD 0) else coverTo zs a b
theorem coverTo_bd {zs : List Int} (h : Sets zs) {a : Nat} (ha : a < zs.length) : ∀ b : Nat, 0 ≤ coverTo zs a b ∧ coverTo zs a b ≤ zs[a]?.getD 0
  | 0 => ⟨(h.bd a ha).1, Int.le_refl _⟩
  | b + 1 => by
    have ih := coverTo_bd h ha b
    unfold coverTo
    split
    · have := lessI_bd (coverTo zs a b) (zs[b]?.getD 0)
      omega
    · exact ih
theorem coverTo_yes {zs : List Int} {a b : Nat} (h : bitB (zs[a]?.getD 0) b = true) : coverTo zs a (b + 1) = lessI (coverTo zs a b) (zs[b]?.getD 0) := by simp [coverTo, h]
theorem coverTo_no {zs : List Int} {a b : Nat} (h : bitB (zs[a]?.getD 0) b = false) : coverTo zs a (b + 1) = coverTo zs a b := by simp [coverTo, h]

theorem own_new (w : World) (e : TypeId) : (w.alloc (.cells #[] e)).ownsRow w.heap.size e 1 (.slice (some ⟨w.heap.size, 0, none⟩) 0 0) 0 [] :=
  ⟨rfl, .inr ⟨w.heap.size, 0, #[], rfl, Nat.le_refl _, by show (w.heap.push _)[w.heap.size]? = _; simp, Nat.le_refl _, by simp [maxLen], rfl, rfl⟩⟩
theorem cell_new (w : World) (e : TypeId) (u : Value) : (w.alloc (.cells #[u] e)).cell? ⟨w.heap.size, 0, none⟩ = some u := (Boxed.new w e u).cell
theorem own_base {w : World} {base n : Nat} {e : TypeId} {v : Value} {xs : List Value} (h : w.ownsRow base e 1 v n xs) : ∀ k, v.ownBlock = some k → base ≤ k := fun k hk => by
  rcases h.2 with ⟨rfl, _⟩ | ⟨g, cap, cur, rfl, hg, _⟩
  · cases hk
  · cases hk; exact hg

end Go.Proofs.Ytghogabmkbadjaa
