/- Ideals, counted by the lowest item of what is left, as plain mathematics. No program. -/
import Derived.Test.YtfahccbbccncnaaDoorGb
import Derived.Test.YtfahccbbccncnaaDoorGa
namespace Go.Proofs.YtfahccbbccncnaaDoor

/-- The lowest item of a set. -/
def low (s : Nat) : Nat := ((List.range 6).find? fun a => s.testBit a).getD 0
theorem low_fin : ∀ s : Fin 64, s.val ≠ 0 → low s.val < 6 ∧ s.val.testBit (low s.val) = true := by decide +kernel
/-- What is left without the lowest item, and without those that z has. -/
def lessN (s : Nat) (z : Int) : Nat := (lessI (lessI (s : Int) (powI (low s : Int))) z).toNat
theorem rest_fin : ∀ s : Fin 64, s.val ≠ 0 → lessI (s.val : Int) (powI (low s.val : Int)) = ((s.val - 2 ^ low s.val : Nat) : Int) ∧ 2 ^ low s.val ≤ s.val := by decide +kernel
theorem lessN_lt {s : Nat} (z : Int) (h0 : s ≠ 0) (h1 : s < 64) : lessN s z < s := by
  have h2 := rest_fin ⟨s, h1⟩ h0
  simp only at h2
  have h3 := lessI_bd (lessI (s : Int) (powI (low s : Int))) z
  have h4 := Nat.two_pow_pos (low s)
  unfold lessN
  rw [h2.1] at h3 ⊢
  omega
def ciN (zs : List Int) (s : Nat) : Nat := if _h : s = 0 ∨ 64 ≤ s then 1 else ciN zs (lessN s (zs[low s]?.getD 0)) + ciN zs (lessN s ((du zs)[low s]?.getD 0))
termination_by s
decreasing_by
  · exact lessN_lt _ (by omega) (by omega)
  · exact lessN_lt _ (by omega) (by omega)
theorem ciN_zero (zs : List Int) : ciN zs 0 = 1 := by rw [ciN]; rfl
theorem ciN_pos {zs : List Int} {s : Nat} (h0 : s ≠ 0) (h1 : s < 64) : ciN zs s = ciN zs (lessN s (zs[low s]?.getD 0)) + ciN zs (lessN s ((du zs)[low s]?.getD 0)) := by
  rw [ciN, dif_neg (by omega)]
/-- How many items: as a number that is none less than 0. -/
def pcN (s : Nat) : Nat := (popI (s : Int)).toNat
theorem pc_sub_fin : ∀ r : Fin 64, ∀ u : Fin 64, u.val &&& r.val = u.val → pcN u.val ≤ pcN r.val := by decide +kernel
theorem pc_rest_fin : ∀ s : Fin 64, s.val ≠ 0 → pcN (s.val - 2 ^ low s.val) + 1 = pcN s.val := by decide +kernel
theorem pc_le_fin : ∀ s : Fin 64, pcN s.val ≤ 6 := by decide +kernel
theorem lessN_in {s : Nat} (z : Int) (h0 : s ≠ 0) (h1 : s < 64) : pcN (lessN s z) + 1 ≤ pcN s := by
  have h2 := rest_fin ⟨s, h1⟩ h0
  have h3 := pc_rest_fin ⟨s, h1⟩ h0
  simp only at h2 h3
  have hlt := lessN_lt z h0 h1
  have hpw := Nat.two_pow_pos (low s)
  have h4 : lessN s z &&& (s - 2 ^ low s) = lessN s z := by
    refine Nat.eq_of_testBit_eq fun j => ?_
    rw [Nat.testBit_and]
    have hb := bitB_less (lessI (s : Int) (powI (low s : Int))) z (j : Int)
    rw [h2.1] at hb
    have e : ∀ (x : Int), 0 ≤ x → bitB x (j : Int) = x.toNat.testBit j := fun x hx => by simp [bitB]
    have hnn := lessI_bd ((s - 2 ^ low s : Nat) : Int) z
    unfold lessN
    rw [h2.1]
    rw [e _ hnn.1, e _ (Int.natCast_nonneg _), Int.toNat_natCast] at hb
    rw [hb]
    cases (s - 2 ^ low s).testBit j <;> simp
  have h5 := pc_sub_fin ⟨s - 2 ^ low s, by omega⟩ ⟨lessN s z, by omega⟩ h4
  simp only at h5
  omega
theorem ciN_le (zs : List Int) : ∀ (k s : Nat), s ≤ k → s < 64 → ciN zs s ≤ 2 ^ pcN s
  | 0, s, hk, _ => by
    obtain rfl : s = 0 := by omega
    rw [ciN_zero]; exact Nat.two_pow_pos _
  | k + 1, s, hk, h1 => by
    by_cases h0 : s = 0
    · subst h0; rw [ciN_zero]; exact Nat.two_pow_pos _
    · rw [ciN_pos h0 h1]
      have a1 := lessN_lt (zs[low s]?.getD 0) h0 h1
      have a2 := lessN_lt ((du zs)[low s]?.getD 0) h0 h1
      have b1 := ciN_le zs k _ (show lessN s (zs[low s]?.getD 0) ≤ k by omega) (by omega)
      have b2 := ciN_le zs k _ (show lessN s ((du zs)[low s]?.getD 0) ≤ k by omega) (by omega)
      have c1 := lessN_in (zs[low s]?.getD 0) h0 h1
      have c2 := lessN_in ((du zs)[low s]?.getD 0) h0 h1
      have d1 : 2 ^ pcN (lessN s (zs[low s]?.getD 0)) ≤ 2 ^ (pcN s - 1) := Nat.pow_le_pow_right (by decide) (by omega)
      have d2 : 2 ^ pcN (lessN s ((du zs)[low s]?.getD 0)) ≤ 2 ^ (pcN s - 1) := Nat.pow_le_pow_right (by decide) (by omega)
      have d3 : 2 ^ pcN s = 2 * 2 ^ (pcN s - 1) := by rw [← Nat.pow_succ']; congr 1; omega
      omega
theorem ciN_64 (zs : List Int) {s : Nat} (h : s < 64) : ciN zs s ≤ 64 := by
  have h1 := ciN_le zs s s (Nat.le_refl _) h
  have h2 := pc_le_fin ⟨s, h⟩
  have h3 : (2 : Nat) ^ pcN s ≤ 2 ^ 6 := Nat.pow_le_pow_right (by decide) h2
  omega
def countIdealsR (zs : List Int) : Int := if vo zs then (ciN zs (2 ^ zs.length - 1) : Int) else -1
/-- As the program reckons it: without the item all that is below it or it. -/
theorem less_bel {zs : List Int} (h : VoP zs) {s : Nat} (h0 : s ≠ 0) (h1 : s < 2 ^ zs.length) :
    lessI (lessI (s : Int) (powI (low s : Int))) (belI zs (powI (low s : Int))) = lessI (lessI (s : Int) (powI (low s : Int))) ((du zs)[low s]?.getD 0) := by
  have h6 := h.1
  have h64 : s < 64 := Nat.lt_of_lt_of_le h1 (Nat.pow_le_pow_right (n := 2) (by decide) h6)
  obtain ⟨hl, hb⟩ := low_fin ⟨s, h64⟩ h0
  simp only at hl hb
  have hln : low s < zs.length := by
    rcases Nat.lt_or_ge (low s) zs.length with e | e
    · exact e
    · rw [Nat.testBit_lt_two_pow (Nat.lt_of_lt_of_le h1 (Nat.pow_le_pow_right (by decide) e))] at hb; cases hb
  refine bitB_ext (lessI_bd _ _).1 (lessI_bd _ _).1 fun j => ?_
  simp only [bitB_less, bitB_pow]
  by_cases hj : low s = j
  · simp [hj]
  · have e : bitB (belI zs (powI (low s : Int))) j = bitB ((du zs)[low s]?.getD 0) j := by
      rw [Bool.eq_iff_iff, belI_bit h.sets (powI_lt hln), du_bit h.sets]
      constructor
      · rintro (e | ⟨b, hb2, hz⟩)
        · rw [bitB_pow] at e; exact absurd (of_decide_eq_true e) hj
        · rw [bitB_pow] at hb2
          have := of_decide_eq_true hb2
          subst this; exact hz
      · intro e
        exact .inr ⟨low s, by rw [bitB_pow]; simp, e⟩
    rw [e]
end Go.Proofs.YtfahccbbccncnaaDoor
