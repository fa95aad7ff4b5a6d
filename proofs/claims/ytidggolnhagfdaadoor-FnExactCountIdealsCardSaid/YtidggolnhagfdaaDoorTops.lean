/- Tops: words, the model's helper and the program's. -/
import Derived.Test.YtidggolnhagfdaaDoorHelp
import Derived.Test.YtidggolnhagfdaaDoorValid
import Derived.Test.YtidggolnhagfdaaDoorVSet
namespace Go.Proofs.YtidggolnhagfdaaDoor
open Go.RowKit Go.Shelf
attribute [local go_sem] Oper.semAt_some
attribute [local go_sem, local simp] wide_fn

/-- The items of s less than k above which there is none of s. -/
def topsTo (zs : List Int) (s : Int) : Nat → Int
  | 0 => 0
  | k + 1 => if bitB s k && andI (zs[k]?.getD 0) s == 0 then orI (topsTo zs s k) (powI k) else topsTo zs s k
theorem topsTo_bd (zs : List Int) (s : Int) : ∀ k : Nat, 0 ≤ topsTo zs s k ∧ topsTo zs s k < powI k
  | 0 => by simp [topsTo, powI]
  | k + 1 => by
    have h := topsTo_bd zs s k
    have hp : powI (k : Int) < powI ((k + 1 : Nat) : Int) := powI_lt (by omega)
    unfold topsTo
    split
    · exact orI_bd h.1 (by omega) (Int.le_of_lt (powI_pos _)) hp
    · omega
theorem topsTo_yes {zs : List Int} {s : Int} {k : Nat} (h : bitB s k = true) (h2 : (andI (zs[k]?.getD 0) s == 0) = true) : topsTo zs s (k + 1) = orI (topsTo zs s k) (powI k) := by simp [topsTo, h, h2]
theorem topsTo_no {zs : List Int} {s : Int} {k : Nat} (h : bitB s k = false ∨ (andI (zs[k]?.getD 0) s == 0) = false) : topsTo zs s (k + 1) = topsTo zs s k := by
  rcases h with h | h <;> simp [topsTo, h]
def topsR (zs : List Int) (s : Int) : Int := if vo zs && inB s 0 (powI zs.length - 1) then topsTo zs s zs.length else -1

theorem topsTo_bit {zs : List Int} {s : Int} (j : Nat) : ∀ k : Nat, bitB (topsTo zs s k) j = true ↔ j < k ∧ bitB s j = true ∧ andI (zs[j]?.getD 0) s = 0
  | 0 => by simp [topsTo, bitB_zero]
  | k + 1 => by
    have ih := topsTo_bit (zs := zs) (s := s) j k
    cases hc : (bitB s k && andI (zs[k]?.getD 0) s == 0)
    · have e : topsTo zs s (k + 1) = topsTo zs s k := by simp only [topsTo]; rw [hc]; rfl
      rw [e, ih]
      constructor
      · rintro ⟨h1, h2⟩; exact ⟨by omega, h2⟩
      · rintro ⟨h1, h2, h3⟩
        refine ⟨?_, h2, h3⟩
        by_cases hjk : j = k
        · subst hjk; rw [h2, h3] at hc; cases hc
        · omega
    · have e : topsTo zs s (k + 1) = orI (topsTo zs s k) (powI k) := by simp only [topsTo]; rw [hc]; rfl
      rw [Bool.and_eq_true] at hc
      rw [e, bitB_or, bitB_pow, Bool.or_eq_true, ih, decide_eq_true_eq]
      constructor
      · rintro (⟨h1, h2⟩ | rfl)
        · exact ⟨by omega, h2⟩
        · exact ⟨by omega, hc.1, by simpa using hc.2⟩
      · rintro ⟨h1, h2⟩
        by_cases hjk : k = j
        · exact .inr hjk
        · exact .inl ⟨by omega, h2⟩
/-- What has been gathered when the items of a list are over. -/
def topsL (zs : List Int) (s : Int) (l : List Nat) : Int := l.foldl (fun (t : Int) (i : Nat) => if andI (zs[i]?.getD 0) s == 0 then orI t (powI i) else t) 0
theorem topsL_yes {zs : List Int} {s : Int} {l : List Nat} {i : Nat} (h : (andI (zs[i]?.getD 0) s == 0) = true) : topsL zs s (l ++ [i]) = orI (topsL zs s l) (powI i) := by
  have h' : andI (zs[i]?.getD 0) s = 0 := by simpa using h
  simp [topsL, h']
theorem topsL_no {zs : List Int} {s : Int} {l : List Nat} {i : Nat} (h : (andI (zs[i]?.getD 0) s == 0) = false) : topsL zs s (l ++ [i]) = topsL zs s l := by
  have h' : ¬ andI (zs[i]?.getD 0) s = 0 := by simpa using h
  simp [topsL, h']
theorem topsL_to (zs : List Int) (s : Int) : ∀ k : Nat, topsL zs s (itemsTo s k) = topsTo zs s k
  | 0 => rfl
  | k + 1 => by
    have ih := topsL_to zs s k
    cases hb : bitB s k
    · rw [itemsTo_no hb, topsTo_no (.inl hb), ih]
    · rw [itemsTo_yes hb]
      cases ha : (andI (zs[k]?.getD 0) s == 0)
      · rw [topsL_no ha, topsTo_no (.inr ha), ih]
      · rw [topsL_yes ha, topsTo_yes hb ha, ih]
theorem topsTo_up {zs : List Int} {s : Int} {n : Nat} (h1 : s < powI n) : ∀ d : Nat, topsTo zs s (n + d) = topsTo zs s n
  | 0 => rfl
  | d + 1 => by
    have hb : bitB s ((n + d : Nat) : Int) = false := by
      cases h : bitB s ((n + d : Nat) : Int) with
      | false => rfl
      | true => have := bitB_lt h1 h; omega
    rw [← Nat.add_assoc, topsTo_no (.inl hb), topsTo_up h1 d]
theorem topsL_all {zs : List Int} {s : Int} {n : Nat} (hn : n ≤ 6) (h1 : s < powI n) : topsL zs s (itemsL s) = topsTo zs s n := by
  rw [itemsL, topsL_to, show (6 : Nat) = n + (6 - n) from by omega, topsTo_up h1]

end Go.Proofs.YtidggolnhagfdaaDoor
