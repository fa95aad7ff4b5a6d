/- OrderOf: what follows. -/
import Derived.Test.YtmlihbcffndnbaaDoorGb
set_option linter.unusedVariables false
set_option linter.unusedSimpArgs false
namespace Go.Proofs.YtmlihbcffndnbaaDoor
open Go.RowKit Go.Shelf

/-- One step: what is above m is put above l, if m is. -/
def fol1 (m : Nat) (d : List Int) (l : Nat) : List Int := if bitB (d[l]?.getD 0) m then d.set l (orI (d[l]?.getD 0) (d[m]?.getD 0)) else d
def folIn (m : Nat) (d : List Int) (b : Nat) : List Int := (List.range b).foldl (fol1 m) d
def folTo (n : Nat) (d : List Int) (a : Nat) : List Int := (List.range a).foldl (fun d m => folIn m d n) d
theorem folIn_succ (m : Nat) (d : List Int) (b : Nat) : folIn m d (b + 1) = fol1 m (folIn m d b) b := by simp [folIn, List.range_succ]
theorem folTo_succ (n : Nat) (d : List Int) (a : Nat) : folTo n d (a + 1) = folIn a (folTo n d a) n := by simp [folTo, List.range_succ]
def Fit (n : Nat) (d : List Int) : Prop := d.length = n ∧ ∀ j : Nat, 0 ≤ d[j]?.getD 0 ∧ d[j]?.getD 0 < powI n
theorem fol1_fit {n m l : Nat} {d : List Int} (h : Fit n d) : Fit n (fol1 m d l) := by
  unfold fol1
  split
  · refine ⟨by simpa using h.1, fun j => ?_⟩
    by_cases hj : l = j
    · subst hj
      by_cases hl : l < d.length
      · rw [List.getElem?_set_self hl]
        exact orI_bd (h.2 _).1 (h.2 _).2 (h.2 _).1 (h.2 _).2
      · rw [List.set_eq_of_length_le (by omega)]
        exact h.2 _
    · rw [List.getElem?_set_ne hj]
      exact h.2 j
  · exact h
theorem folIn_fit {n m : Nat} {d : List Int} (h : Fit n d) : ∀ b : Nat, Fit n (folIn m d b)
  | 0 => h
  | b + 1 => by rw [folIn_succ]; exact fol1_fit (folIn_fit h b)
theorem folTo_fit {n : Nat} {d : List Int} (h : Fit n d) : ∀ a : Nat, Fit n (folTo n d a)
  | 0 => h
  | a + 1 => by rw [folTo_succ]; exact folIn_fit (folTo_fit h a) n
theorem base_fit {n : Nat} {ps : List (Nat × Nat)} (h : ∀ p ∈ ps, p.1 < n) : Fit n (downP n ps) := ⟨downP_len _ _, fun j => downP_bd h j⟩

end Go.Proofs.YtmlihbcffndnbaaDoor
