/- What the row's condition gives IsEven's walk: the library's variables' cells. -/
import Derived.Test.YtmlihbcffndnbabDoorEtOf
import Derived.Test.YtmlihbcffndnbabDoorGxb
import Derived.ProofKit
import Derived.LaidMore
import Derived.OpenShut
import Derived.Stop.Joined
import Derived.SevenTiedAt
set_option linter.unusedVariables false
set_option linter.unusedSimpArgs false
namespace Go.Proofs.YtmlihbcffndnbabDoor
open Go.RowKit Go.ChangeShapes Go.WideShapes Go.ChangeAt Go.WideMaps Go.WideElems

theorem evGlobA : Tryd.prog.globalNamed "math/bits.deBruijn32tab" = some 1 := by kernel_rfl
theorem evGlobB : Tryd.prog.globalNamed "math/bits.deBruijn64tab" = some 2 := by kernel_rfl
theorem evTypeB : (Tryd.prog.globals[2]?).map (·.type) = some 134 := by kernel_rfl

theorem evOfLaid {W : World} (h : laidMetH Tryd.prog (Rows.fnIsEvenRow.laid) W) : Et W ∧ Tab W ∧ 2 < W.heap.size := by
  have h' : laidMet Tryd.prog [("math/bits.deBruijn32tab", Rows.laid_math_bits_deBruijn32tab), ("math/bits.deBruijn64tab", Rows.laid_math_bits_deBruijn64tab)] W ∧ handlesMet Tryd.prog [("errors.errorType", Rows.laid_errors_errorType)] W := h
  refine ⟨etOfHandles h'.2, ?_⟩
  obtain ⟨ps, ⟨ga, ta, csa, fa, pa, qa, hga, hta, hva, hda, ⟨gb, tb, csb, fb, pb, qb, hgb, htb, hvb, hdb, _, _⟩, _⟩, _, _⟩ := h'.1
  obtain rfl := Option.some.inj (evGlobB.symm.trans hgb)
  obtain rfl := Option.some.inj (evTypeB.symm.trans htb)
  clear hda hva hta
  obtain ⟨xs, m1, rfl, hx1, hlen, hn3, hel⟩ := DataW.trod_array Tryd.underlying134 hdb
  have c5 : Tryd.prog.cellsOf 5 = 1 := by kernel_rfl
  have key : ∀ (i : Nat) (k : Int), i < 64 → (match (Rows.laid_math_bits_deBruijn64tab : DataW Unit) with | .agg l => l[i]? | _ => none) = some (.lit (.int .u8 k)) → W.cell? ⟨2, i, none⟩ = some (.int .u8 k) := by
    intro i k hi hk
    have hx2 : (Rows.laid_math_bits_deBruijn64tab : DataW Unit) = .agg (xs.map (·.1)) := (Prod.mk.inj hx1).1
    rw [hx2] at hk
    simp only [List.getElem?_map] at hk
    have h1 := hel i hi
    cases hxi : xs[i]? with
    | none => rw [hxi] at hk; cases hk
    | some x =>
      rw [hxi] at hk h1
      obtain ⟨n, e1, e2, _⟩ := DataW.trod_int Tryd.underlying5 h1
      rw [e2] at hk
      have hnk : n = k := by simpa using hk
      subst hnk
      rw [c5, Nat.mul_one] at e1
      have h2 : csb.toList[i]? = some (.int .u8 n) := by
        have h3 : ((csb.toList.drop i).take 1)[0]? = some (.int .u8 n) := by rw [e1]; rfl
        rw [List.getElem?_take_of_lt (by omega), List.getElem?_drop, Nat.add_zero] at h3
        exact h3
      rw [World.var?_cell hgb hvb i, ← Array.getElem?_toList]
      exact h2
  have k0 := key 0 0 (by omega) (by kernel_rfl)
  have k1 := key 1 1 (by omega) (by kernel_rfl)
  have k3 := key 3 2 (by omega) (by kernel_rfl)
  have k7 := key 7 3 (by omega) (by kernel_rfl)
  have k15 := key 15 4 (by omega) (by kernel_rfl)
  have k31 := key 31 5 (by omega) (by kernel_rfl)
  refine ⟨fun a ha => ?_, ?_⟩
  · have : a = 0 ∨ a = 1 ∨ a = 2 ∨ a = 3 ∨ a = 4 ∨ a = 5 := by omega
    rcases this with rfl | rfl | rfl | rfl | rfl | rfl
    · exact k0
    · exact k1
    · exact k3
    · exact k7
    · exact k15
    · exact k31
  · rcases Nat.lt_or_ge 2 W.heap.size with e | e
    · exact e
    · simp [World.cell?, Array.getElem?_eq_none e] at k0
end Go.Proofs.YtmlihbcffndnbabDoor
