/- Forests, as plain mathematics. No program. -/
import Derived.Test.YthjmedbjdjkilaaGb
namespace Go.Proofs.Ythjmedbjdjkilaa

/-- Below each item all others are a chain. -/
def allCh (zs : List Int) : Bool := (List.range zs.length).all fun a => chB zs ((du zs)[a]?.getD 0)
theorem allCh_yes {zs : List Int} {n : Nat} (hn : zs.length = n) (h : ∀ a, a < n → chB zs ((du zs)[a]?.getD 0) = true) : allCh zs = true := by
  unfold allCh
  rw [List.all_eq_true]
  intro a ha
  exact h a (by rw [← hn]; exact List.mem_range.1 ha)
theorem allCh_no {zs : List Int} {n k : Nat} (hn : zs.length = n) (hk : k < n) (h : chB zs ((du zs)[k]?.getD 0) = false) : allCh zs = false := by
  cases e : allCh zs
  · rfl
  · unfold allCh at e
    rw [List.all_eq_true] at e
    have := e k (List.mem_range.2 (by omega))
    rw [h] at this
    cases this
def factI : Nat → Int
  | 0 => 1
  | k + 1 => factI k * ((k : Int) + 1)
theorem factI_bd : ∀ k : Fin 7, 1 ≤ factI k.val ∧ factI k.val ≤ 720 := by decide
def divTo (zs : List Int) : Nat → Int
  | 0 => 1
  | k + 1 => divTo zs k * (popI (zs[k]?.getD 0) + 1)
theorem divTo_bd {zs : List Int} (h : Sets zs) : ∀ k : Nat, k ≤ zs.length → 1 ≤ divTo zs k ∧ divTo zs k ≤ 7 ^ k
  | 0, _ => by simp [divTo]
  | k + 1, hk => by
    have h1 := divTo_bd h k (by omega)
    have h2 := h.bd k (by omega)
    have h3 := popI_bd h2.1 h2.2
    unfold divTo
    rw [Int.pow_succ]
    refine ⟨?_, Int.mul_le_mul h1.2 (by omega) (by omega) (by omega)⟩
    have := Int.mul_pos (show 0 < divTo zs k by omega) (show 0 < popI (zs[k]?.getD 0) + 1 by omega)
    omega
theorem divTo_le {zs : List Int} (h : Sets zs) {k : Nat} (hk : k ≤ zs.length) : 1 ≤ divTo zs k ∧ divTo zs k ≤ 117649 := by
  have h1 := divTo_bd h k hk
  have h2 : (7 : Nat) ^ k ≤ 7 ^ 6 := Nat.pow_le_pow_right (by decide) (by have := h.1; omega)
  have h3 : (7 : Int) ^ k ≤ 7 ^ 6 := by exact_mod_cast h2
  omega
def quoTo (zs : List Int) (n : Nat) : Nat → Int
  | 0 => factI n
  | k + 1 => (quoTo zs n k).tdiv (1 + popI (zs[k]?.getD 0))
theorem quoTo_is {zs : List Int} {n : Nat} (h : Sets zs) (hn : n ≤ 6) : ∀ k : Nat, k ≤ zs.length → quoTo zs n k = (factI n).tdiv (divTo zs k) ∧ 0 ≤ quoTo zs n k ∧ quoTo zs n k ≤ 720
  | 0, _ => by
    have := factI_bd ⟨n, by omega⟩
    simp only at this
    simp [quoTo, divTo]
    omega
  | k + 1, hk => by
    obtain ⟨h1, h2, h3⟩ := quoTo_is h hn k (by omega)
    have hd := divTo_bd h k (by omega)
    have hb := h.bd k (by omega)
    have hp := popI_bd hb.1 hb.2
    have hf := factI_bd ⟨n, by omega⟩
    simp only at hf
    have e : quoTo zs n (k + 1) = (factI n).tdiv (divTo zs (k + 1)) := by
      show (quoTo zs n k).tdiv (1 + popI (zs[k]?.getD 0)) = (factI n).tdiv (divTo zs k * (popI (zs[k]?.getD 0) + 1))
      have hnn : 0 ≤ (factI n).tdiv (divTo zs k) := by rw [← h1]; exact h2
      rw [h1, Int.tdiv_eq_ediv_of_nonneg hnn, Int.tdiv_eq_ediv_of_nonneg (by omega), Int.tdiv_eq_ediv_of_nonneg (by omega), Int.ediv_ediv_of_nonneg (by omega), Int.add_comm 1]
    refine ⟨e, ?_⟩
    show 0 ≤ (quoTo zs n k).tdiv (1 + popI (zs[k]?.getD 0)) ∧ (quoTo zs n k).tdiv (1 + popI (zs[k]?.getD 0)) ≤ 720
    rw [Int.tdiv_eq_ediv_of_nonneg h2]
    have := Int.ediv_nonneg h2 (show (0 : Int) ≤ 1 + popI (zs[k]?.getD 0) by omega)
    have := Int.ediv_le_self (1 + popI (zs[k]?.getD 0)) h2
    omega
/-- In how many ways a forest is lined up, as the document reckons it. -/
def forestR (zs : List Int) : Int := if vo zs && allCh zs then (factI zs.length).tdiv (divTo zs zs.length) else -1
end Go.Proofs.Ythjmedbjdjkilaa
