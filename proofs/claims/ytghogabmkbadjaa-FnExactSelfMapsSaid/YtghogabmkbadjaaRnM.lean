/- An order under new numbers: its value. No program. -/
import Derived.Test.YtghogabmkbadjaaLoM
import Derived.Test.YtghogabmkbadjaaGa
import Derived.Test.YtghogabmkbadjaaRkAt
set_option linter.unusedVariables false
set_option linter.unusedSimpArgs false
namespace Go.Proofs.Ytghogabmkbadjaa

/-- What has been numbered anew when a list of pairs is over. -/
def rnP (ts : List Int) (n : Nat) (ps : List (Nat × Nat)) : List Int := ps.foldl (fun (d : List Int) (p : Nat × Nat) => d.set (itN ts p.1) (orI (d[itN ts p.1]?.getD 0) (powI (itN ts p.2)))) (List.replicate n 0)
theorem rnP_snoc (ts : List Int) (n : Nat) (ps : List (Nat × Nat)) (a b : Nat) : rnP ts n (ps ++ [(a, b)]) = (rnP ts n ps).set (itN ts a) (orI ((rnP ts n ps)[itN ts a]?.getD 0) (powI (itN ts b))) := by simp [rnP]
theorem rnP_len (ts : List Int) (n : Nat) : ∀ ps : List (Nat × Nat), (rnP ts n ps).length = n := fun ps => by
  unfold rnP
  generalize hd : List.replicate n (0 : Int) = d
  have hl : d.length = n := by rw [← hd]; simp
  clear hd
  induction ps generalizing d with
  | nil => exact hl
  | cons p ps ih => exact ih _ (by simpa using hl)
theorem rnP_bd {ts : List Int} {n m : Nat} {ps : List (Nat × Nat)} (h : ∀ p ∈ ps, itN ts p.2 < m) (j : Nat) : 0 ≤ (rnP ts n ps)[j]?.getD 0 ∧ (rnP ts n ps)[j]?.getD 0 < powI m := by
  have hp := powI_pos (m : Int)
  unfold rnP
  generalize hd : List.replicate n (0 : Int) = d
  have hl : ∀ j : Nat, 0 ≤ d[j]?.getD 0 ∧ d[j]?.getD 0 < powI m := fun j => by
    rw [← hd]
    by_cases hj : j < n
    · simp [hj]; exact hp
    · simp [hj]; exact hp
  clear hd
  induction ps generalizing d with
  | nil => exact hl j
  | cons p ps ih =>
    refine ih (fun q hq => h q (by simp [hq])) _ (fun i => ?_)
    have h1 := h p (by simp)
    by_cases hi : itN ts p.1 = i
    · subst hi
      by_cases hlt : itN ts p.1 < d.length
      · rw [List.getElem?_set_self hlt]
        exact orI_bd (hl _).1 (hl _).2 (Int.le_of_lt (powI_pos _)) (powI_lt h1)
      · dsimp only
        rw [List.set_eq_of_length_le (by omega)]
        exact hl _
    · rw [List.getElem?_set_ne hi]
      exact hl i
theorem rnP_bit {ts : List Int} {n : Nat} {ps : List (Nat × Nat)} (hps : ∀ p ∈ ps, itN ts p.1 < n) (a b : Nat) : bitB ((rnP ts n ps)[a]?.getD 0) b = true ↔ ∃ p ∈ ps, itN ts p.1 = a ∧ itN ts p.2 = b := by
  have key : ∀ (ps : List (Nat × Nat)) (d : List Int), d.length = n → (∀ p ∈ ps, itN ts p.1 < n) →
      (bitB ((ps.foldl (fun (d : List Int) (p : Nat × Nat) => d.set (itN ts p.1) (orI (d[itN ts p.1]?.getD 0) (powI (itN ts p.2)))) d)[a]?.getD 0) b = true ↔ bitB (d[a]?.getD 0) b = true ∨ ∃ p ∈ ps, itN ts p.1 = a ∧ itN ts p.2 = b) := fun ps => by
    induction ps with
    | nil => intro d _ _; simp
    | cons p ps ih =>
      intro d hd hp
      rw [List.foldl_cons, ih _ (by simpa using hd) (fun q hq => hp q (by simp [hq]))]
      have hp2 := hp p (by simp)
      by_cases hy : itN ts p.1 = a
      · rw [hy] at hp2 ⊢
        rw [List.getElem?_set_self (by omega), Option.getD_some, bitB_or, bitB_pow]
        by_cases hx : itN ts p.2 = b
        · simp [hx, hy]
        · simp [hx, hy]
      · rw [List.getElem?_set_ne hy]
        simp [hy]
  unfold rnP
  rw [key ps _ (by simp) hps]
  by_cases hb : a < n
  · simp [hb, bitB_zero]
  · simp [hb, bitB_zero]

/-- The order under new numbers. -/
def rnL (zs ts : List Int) : List Int := rnP ts zs.length (pairsL zs)
def rnOk (zs ts : List Int) : Bool := vo zs && lineB (zr zs.length) ts
def rnR (zs ts : List Int) : List Int := if rnOk zs ts then rnL zs ts else []
theorem rnL_len (zs ts : List Int) : (rnL zs ts).length = zs.length := rnP_len _ _ _
section
variable {zs ts : List Int}
theorem rn_pair (hz : Sets zs) (ht : lineB (zr zs.length) ts = true) : ∀ p ∈ pairsL zs, itN ts p.1 < zs.length ∧ itN ts p.2 < zs.length := fun p hp => by
  obtain ⟨h1, h2, _⟩ := hz.pair (a := p.1) (b := p.2) hp
  exact ⟨(it_lt ht h1).2, (it_lt ht h2).2⟩
/-- A bit of the order under new numbers. -/
theorem rnL_bit (hz : Sets zs) (ht : lineB (zr zs.length) ts = true) {a b : Nat} (ha : a < zs.length) (hb : b < zs.length) : bitB ((rnL zs ts)[itN ts a]?.getD 0) (itN ts b) = bitB (zs[a]?.getD 0) b := by
  have hps := rn_pair hz ht
  have hinj : ∀ i j, i < zs.length → j < zs.length → itN ts i = itN ts j → i = j := fun i j hi hj e => by
    rcases Nat.lt_trichotomy i j with h | h | h
    · exact absurd e (it_new ht hj h)
    · exact h
    · exact absurd e.symm (it_new ht hi h)
  have key : bitB ((rnL zs ts)[itN ts a]?.getD 0) (itN ts b) = true ↔ bitB (zs[a]?.getD 0) b = true := by
    unfold rnL
    rw [rnP_bit (fun p hp => (hps p hp).1)]
    constructor
    · rintro ⟨⟨x, y⟩, hp, e1, e2⟩
      obtain ⟨h1, h2, h3⟩ := hz.pair (a := x) (b := y) hp
      rw [hinj _ _ h1 ha e1, hinj _ _ h2 hb e2] at h3
      exact h3
    · intro e
      exact ⟨(a, b), mem_pairsL.2 ⟨ha, by have := hz.1; omega, e⟩, rfl, rfl⟩
  cases h1 : bitB ((rnL zs ts)[itN ts a]?.getD 0) (itN ts b) <;> cases h2 : bitB (zs[a]?.getD 0) b <;> simp_all
theorem rnL_bd (hz : Sets zs) (ht : lineB (zr zs.length) ts = true) (j : Nat) : 0 ≤ (rnL zs ts)[j]?.getD 0 ∧ (rnL zs ts)[j]?.getD 0 < powI zs.length := rnP_bd (fun p hp => (rn_pair hz ht p hp).2) j
theorem rnL_sets (hz : Sets zs) (ht : lineB (zr zs.length) ts = true) : Sets (rnL zs ts) := ⟨by rw [rnL_len]; exact hz.1, fun a _ => by rw [rnL_len]; exact rnL_bd hz ht a⟩
end
end Go.Proofs.Ytghogabmkbadjaa
