/- Jumps of a line, as plain mathematics. No program. -/
import Derived.Test.YtipdmaggfbfnlaaLineM
namespace Go.Proofs.Ytipdmaggfbfnlaa

/-- The jumps of the first k steps of the list. -/
def jmpTo (zs ls : List Int) : Nat → Int
  | 0 => 0
  | k + 1 => jmpTo zs ls k + (if bitB (zs[(ls[k]?.getD 0).toNat]?.getD 0) (ls[k + 1]?.getD 0) then 0 else 1)
def jumpsL (zs ls : List Int) : Int := jmpTo zs ls (ls.length - 1)
def jumpsR (zs ls : List Int) : Int := if isLineR zs ls then jumpsL zs ls else -1
theorem jmpTo_bd (zs ls : List Int) : ∀ k : Nat, 0 ≤ jmpTo zs ls k ∧ jmpTo zs ls k ≤ k
  | 0 => by simp [jmpTo]
  | k + 1 => by
    have := jmpTo_bd zs ls k
    unfold jmpTo
    split <;> omega
theorem line_items {zs ls : List Int} (h : lineB zs ls = true) : ls.length = zs.length ∧ ∀ k, k < ls.length → ∃ a : Nat, ls[k]?.getD 0 = (a : Int) ∧ a < zs.length := by
  unfold lineB at h
  rw [Bool.and_eq_true, decide_eq_true_eq, List.all_eq_true] at h
  refine ⟨h.1, fun k hk => ?_⟩
  have h2 := stepOk_in (h.2 k (List.mem_range.2 hk))
  obtain ⟨a, ha⟩ := Int.eq_ofNat_of_zero_le h2.1
  exact ⟨a, ha, by omega⟩
end Go.Proofs.Ytipdmaggfbfnlaa
