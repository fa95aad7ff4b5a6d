/- How far apart next items stand in a line, and the least of it over all lines. No program. -/
import Derived.Test.YtghogabmkbadjabGa
import Derived.Test.YtghogabmkbadjabGb
import Derived.Test.YtghogabmkbadjabGd
set_option linter.unusedVariables false
set_option linter.unusedSimpArgs false
namespace Go.Proofs.Ytghogabmkbadjab

/-- The greatest distance of pairs in a line, at least 0. -/
def wdF (l : List Int) (ps : List (Nat × Nat)) : Int := ps.foldl (fun m p => max m (atI l (p.2 : Int) - atI l (p.1 : Int))) 0
theorem wdF_snoc (l : List Int) (ps : List (Nat × Nat)) (p : Nat × Nat) : wdF l (ps ++ [p]) = max (wdF l ps) (atI l (p.2 : Int) - atI l (p.1 : Int)) := by simp [wdF, List.foldl_append]
def wdL (zs l : List Int) : Int := wdF l (covTo zs zs.length)
theorem wdL_is {zs : List Int} (h : Sets zs) (l : List Int) : wdL zs l = wdF l ((pairsL zs).filter (coverB zs)) := by unfold wdL; rw [cov_pairs h]
/-- The least of lines. -/
def wdMin (zs : List Int) (m : Int) (ls : List (List Int)) : Int := ls.foldl (fun m l => min m (wdL zs l)) m
theorem wdMin_snoc (zs : List Int) (m : Int) (ls : List (List Int)) (l : List Int) : wdMin zs m (ls ++ [l]) = min (wdMin zs m ls) (wdL zs l) := by simp [wdMin, List.foldl_append]
def wideOfR (zs : List Int) : Int := if vo zs && decide (zs.length ≤ 5) then wdMin zs zs.length (alL zs) else -1
theorem atI_lim (l : List Int) (x : Int) : -1 ≤ atI l x ∧ atI l x < max 1 (l.length : Int) := by
  unfold atI
  split
  · omega
  · rename_i j h
    have := List.mem_of_find?_eq_some h
    rw [List.mem_range] at this
    omega
theorem wdF_bd (l : List Int) (hl : l.length ≤ 6) : ∀ ps : List (Nat × Nat), 0 ≤ wdF l ps ∧ wdF l ps ≤ 6 := fun ps => by
  have key : ∀ (qs : List (Nat × Nat)) (m : Int), 0 ≤ m → m ≤ 6 → 0 ≤ qs.foldl (fun m p => max m (atI l (p.2 : Int) - atI l (p.1 : Int))) m ∧ qs.foldl (fun m p => max m (atI l (p.2 : Int) - atI l (p.1 : Int))) m ≤ 6 := fun qs => by
    induction qs with
    | nil => intro m h1 h2; exact ⟨h1, h2⟩
    | cons p qs ih =>
      intro m h1 h2
      have h3 := atI_lim l (p.2 : Int)
      have h4 := atI_lim l (p.1 : Int)
      exact ih _ (show 0 ≤ max m (atI l (p.2 : Int) - atI l (p.1 : Int)) by omega) (show max m (atI l (p.2 : Int) - atI l (p.1 : Int)) ≤ 6 by omega)
  exact key ps 0 (by omega) (by omega)
theorem wdMin_bd (zs : List Int) : ∀ (ls : List (List Int)) (m : Int), (∀ l ∈ ls, l.length ≤ 6) → 0 ≤ m → m ≤ 6 → 0 ≤ wdMin zs m ls ∧ wdMin zs m ls ≤ 6
  | [], m, _, h1, h2 => ⟨h1, h2⟩
  | l :: ls, m, h, h1, h2 => by
    have h3 := wdF_bd l (h l List.mem_cons_self) (covTo zs zs.length)
    unfold wdMin
    rw [List.foldl_cons]
    refine wdMin_bd zs ls _ (fun l hl => h l (List.mem_cons_of_mem _ hl)) ?_ ?_
    · show 0 ≤ min m (wdF l (covTo zs zs.length)); omega
    · show min m (wdF l (covTo zs zs.length)) ≤ 6; omega
end Go.Proofs.Ytghogabmkbadjab
