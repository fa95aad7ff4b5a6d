/- Lines counted: no number is great; the table as it fills. No program. -/
import Derived.Test.YtipdmaggfbfnlaaCntM
set_option linter.unusedVariables false
set_option linter.unusedSimpArgs false
namespace Go.Proofs.Ytipdmaggfbfnlaa

theorem sum_le {α : Type} {f : α → Nat} {c : Nat} : ∀ l : List α, (∀ x ∈ l, f x ≤ c) → (l.map f).sum ≤ l.length * c
  | [], _ => by simp
  | x :: l, h => by
    have h1 := h x (by simp)
    have h2 := sum_le l fun y hy => h y (by simp [hy])
    rw [List.map_cons, List.sum_cons, List.length_cons, Nat.add_mul]
    omega
theorem pop_sub_fin : ∀ s : Fin 64, ∀ a : Fin 6, s.val.testBit a.val = true → (popI ((s.val - 2 ^ a.val : Nat) : Int)).toNat + 1 = (popI (s.val : Int)).toNat := by decide +kernel
theorem pop_le_fin : ∀ s : Fin 64, (popI (s.val : Int)).toNat ≤ 6 := by decide +kernel
theorem cG_bd {zs : List Int} (h : VoP zs) : ∀ (k s : Nat), s ≤ k → s < 2 ^ zs.length → cG zs s ≤ 6 ^ (popI (s : Int)).toNat
  | 0, s, hk, _ => by
    obtain rfl : s = 0 := by omega
    rw [cG_zero]; decide
  | k + 1, s, hk, hN => by
    by_cases h0 : s = 0
    · exact cG_bd h k s (by omega) hN
    · have h6 := pow_le64 h.1
      have hn6 := h.1
      rw [cG_pos h0]
      obtain ⟨p, hp⟩ : ∃ p, (popI (s : Int)).toNat = p := ⟨_, rfl⟩
      have hle := sum_le (f := fun a => if eG zs s a then cG zs (s - 2 ^ a) else 0) (c := 6 ^ (p - 1)) (List.range zs.length) fun a ha => by
        have han := List.mem_range.1 ha
        cases he : eG zs s a
        · simp
        · have hb : s.testBit a = true := by unfold eG at he; rw [Bool.and_eq_true] at he; exact he.1
          have hge := ge_bit_fin ⟨s, by omega⟩ ⟨a, by omega⟩ hb
          simp only at hge
          have hpp := Nat.two_pow_pos a
          have ih := cG_bd h k (s - 2 ^ a) (by omega) (by omega)
          have hps := pop_sub_fin ⟨s, by omega⟩ ⟨a, by omega⟩ hb
          simp only at hps
          rw [hp] at hps
          simp only [if_true]
          rw [show p - 1 = (popI ((s - 2 ^ a : Nat) : Int)).toNat by omega]
          exact ih
      rw [List.length_range] at hle
      have hpos : 1 ≤ p := by
        rcases Nat.lt_or_ge 0 p with h1 | h1
        · exact h1
        · exfalso
          have : (popI (s : Int)).toNat = 0 := by omega
          have key : ∀ t : Fin 64, (popI (t.val : Int)).toNat = 0 → t.val = 0 := by decide +kernel
          exact h0 (key ⟨s, by omega⟩ this)
      rw [hp]
      have e : 6 ^ p = 6 * 6 ^ (p - 1) := by rw [← Nat.pow_succ']; congr 1; omega
      rw [e]
      exact Nat.le_trans hle (Nat.mul_le_mul_right _ hn6)
theorem cG_le {zs : List Int} (h : VoP zs) {s : Nat} (hN : s < 2 ^ zs.length) : cG zs s ≤ 46656 := by
  have h6 := pow_le64 h.1
  have h1 := cG_bd h s s (Nat.le_refl _) hN
  have h2 := pop_le_fin ⟨s, by omega⟩
  simp only at h2
  have h3 : 6 ^ (popI (s : Int)).toNat ≤ 6 ^ 6 := Nat.pow_le_pow_right (by decide) h2
  omega
/-- What is summed up of the items less than a. -/
def pg (zs : List Int) (s a : Nat) : Nat := ((List.range a).map fun b => if eG zs s b then cG zs (s - 2 ^ b) else 0).sum
theorem pg_succ (zs : List Int) (s a : Nat) : pg zs s (a + 1) = pg zs s a + (if eG zs s a then cG zs (s - 2 ^ a) else 0) := by
  unfold pg
  rw [List.range_succ, List.map_append, List.sum_append]
  simp
theorem pg_le (zs : List Int) (s : Nat) : ∀ d a : Nat, pg zs s a ≤ pg zs s (a + d)
  | 0, _ => Nat.le_refl _
  | d + 1, a => by
    have := pg_le zs s d a
    rw [show a + (d + 1) = a + d + 1 by omega, pg_succ]
    omega
theorem pg_all {zs : List Int} {s : Nat} (h : s ≠ 0) : pg zs s zs.length = cG zs s := (cG_pos h).symm
theorem pg_bd {zs : List Int} (h : VoP zs) {s a : Nat} (h0 : s ≠ 0) (hN : s < 2 ^ zs.length) (ha : a ≤ zs.length) : pg zs s a ≤ 46656 := by
  have h1 := pg_le zs s (zs.length - a) a
  rw [show a + (zs.length - a) = zs.length by omega, pg_all h0] at h1
  have := cG_le h hN
  omega
def tab (zs : List Int) (s p : Nat) : List Int := (List.range (2 ^ zs.length)).map fun i => if i < s then (cG zs i : Int) else if i = s then (p : Int) else 0
theorem tab_len (zs : List Int) (s p : Nat) : (tab zs s p).length = 2 ^ zs.length := by simp [tab]
theorem tab_get {zs : List Int} {s p i : Nat} (hi : i < 2 ^ zs.length) : (tab zs s p)[i]?.getD 0 = if i < s then (cG zs i : Int) else if i = s then (p : Int) else 0 := by simp [tab, hi]
theorem tab_set {zs : List Int} {s p q : Nat} : (tab zs s p).set s (q : Int) = tab zs s q := by
  refine List.ext_getElem (by simp [tab]) fun i h1 h2 => ?_
  rw [List.length_set, tab_len] at h1
  by_cases hi : s = i
  · subst hi
    rw [List.getElem_set_self]
    simp [tab]
  · rw [List.getElem_set_ne hi]
    have : ¬ i = s := fun e => hi e.symm
    simp [tab, this]
theorem tab_next (zs : List Int) (s : Nat) : tab zs s (cG zs s) = tab zs (s + 1) 0 := by
  unfold tab
  refine List.map_congr_left fun i _ => ?_
  by_cases h1 : i < s
  · rw [if_pos h1, if_pos (by omega)]
  · by_cases h2 : i = s
    · subst h2
      rw [if_neg h1, if_pos rfl, if_pos (by omega)]
    · rw [if_neg h1, if_neg h2, if_neg (by omega)]
      by_cases h3 : i = s + 1
      · rw [if_pos h3]; rfl
      · rw [if_neg h3]
theorem tab_start (zs : List Int) : (List.replicate (2 ^ zs.length) (0 : Int)).set 0 1 = tab zs 1 0 := by
  refine List.ext_getElem (by simp [tab]) fun i h1 h2 => ?_
  by_cases hi : 0 = i
  · subst hi
    rw [List.getElem_set_self]
    simp [tab, cG_zero]
  · rw [List.getElem_set_ne hi]
    simp [tab]
    intro h; omega
/-- In how many ways an order is lined up. -/
def linesR (zs : List Int) : Int := if vo zs then (cG zs (2 ^ zs.length - 1) : Int) else -1
end Go.Proofs.Ytipdmaggfbfnlaa
