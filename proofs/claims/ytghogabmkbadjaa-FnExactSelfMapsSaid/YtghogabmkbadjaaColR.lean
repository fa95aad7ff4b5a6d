/- slices.AppendSeq and Collect over an iterator of lines. -/
import Derived.Test.YtghogabmkbadjaaLnR
import Derived.Test.YtghogabmkbadjaaTlK
set_option linter.unusedVariables false
set_option linter.unusedSimpArgs false
namespace Go.Proofs.Ytghogabmkbadjaa
open Go.RowKit Go.Shelf
attribute [local go_sem] Oper.semAt_some
attribute [local go_sem, local simp] wide_fn

/-- How many lines there are at most. -/
theorem alG_count (zs : List Int) : ∀ (k : Nat) (so : List Int) (s : Int), zs.length ≤ 6 → (alG zs k so s).length ≤ 6 ^ k
  | 0, so, s, _ => by simp [alG]
  | k + 1, so, s, h => by
    rw [← alX_all]
    unfold alX
    have h1 : (nxA zs s).length ≤ 6 := by
      unfold nxA
      have := List.length_filter_le (fun a : Nat => stA2 zs s a) (List.range zs.length)
      rw [List.length_range] at this
      omega
    have h2 : ∀ l : List Nat, (l.flatMap fun a : Nat => alG zs k (so ++ [(a : Int)]) (orI s (powI a))).length ≤ l.length * 6 ^ k := fun l => by
      induction l with
      | nil => simp
      | cons a l ih =>
        have := alG_count zs k (so ++ [(a : Int)]) (orI s (powI a)) h
        rw [List.flatMap_cons, List.length_append, List.length_cons, Nat.add_mul]
        omega
    refine Nat.le_trans (h2 _) ?_
    rw [Nat.pow_succ, Nat.mul_comm]
    exact Nat.mul_le_mul_left _ h1
theorem alL_count {zs : List Int} (h : zs.length ≤ 6) : (alL zs).length ≤ 46656 := by
  have h1 := alG_count zs zs.length [] 0 h
  have h2 : 6 ^ zs.length ≤ 6 ^ 6 := Nat.pow_le_pow_right (by omega) h
  unfold alL
  exact Nat.le_trans h1 h2
theorem tot_const {m : Nat} : ∀ rs : List (List Int), (∀ r ∈ rs, r.length = m) → tot rs = rs.length * m
  | [], _ => by simp [tot]
  | r :: rs, h => by
    have := tot_const rs fun r hr => h r (List.mem_cons_of_mem _ hr)
    rw [tot, this, h r List.mem_cons_self, List.length_cons, Nat.add_mul]
    omega
theorem alL_rows {zs : List Int} : ∀ r ∈ alL zs, r.length = zs.length := fun r hr => by
  have := alG_len zs _ _ _ r hr
  simpa using this
theorem alL_tot {zs : List Int} (h : zs.length ≤ 6) : tot (alL zs) ≤ 1048576 := by
  rw [tot_const _ alL_rows]
  have := Nat.mul_le_mul (alL_count h) h
  omega

/-- All lines of an order of few items; no lines of others. -/
def linesOfR (zs : List Int) : List (List Int) := if vo zs && decide (zs.length ≤ 5) then alL zs else []
end Go.Proofs.Ytghogabmkbadjaa
