/- Lines counted of what is left: the sum over the items that may come next; bounds. No program. -/
import Derived.Test.YtipdmaggfbfnlaaCntB
import Derived.Test.YtipdmaggfbfnlaaTops
import Derived.Test.YtipdmaggfbfnlaaGa
set_option linter.unusedVariables false
set_option linter.unusedSimpArgs false
namespace Go.Proofs.Ytipdmaggfbfnlaa

theorem cF_bd {zs : List Int} (h : VoP zs) : ∀ (k s : Nat), s ≤ k → s < 2 ^ zs.length → cF zs s ≤ 6 ^ (popI (s : Int)).toNat
  | k, s, hk, hN => by
    by_cases h0 : s = 0
    · subst h0
      rw [cF_zero]
      exact Nat.pos_of_ne_zero (by have := Nat.pow_pos (n := (popI ((0 : Nat) : Int)).toNat) (show 0 < 6 by omega); omega)
    · cases k with
      | zero => omega
      | succ k =>
        have h64 := Nat.lt_of_lt_of_le hN (pow_le64 h.1)
        have hn6 := h.1
        rw [cF_pos h0]
        have key : ∀ x ∈ List.range zs.length, (if eF zs s x then cF zs (s - 2 ^ x) else 0) ≤ 6 ^ ((popI (s : Int)).toNat - 1) := fun x hx => by
          have hxn : x < zs.length := by simpa using hx
          split
          · rename_i he
            unfold eF at he
            rw [Bool.and_eq_true] at he
            have hp := pop_sub_fin ⟨s, h64⟩ ⟨x, by omega⟩ he.1
            have hge := ge_bit_fin ⟨s, h64⟩ ⟨x, by omega⟩ he.1
            have hpos := Nat.two_pow_pos x
            have ih := cF_bd h k (s - 2 ^ x) (by simp only at hge; omega) (by omega)
            simp only at hp
            rw [show (popI (s : Int)).toNat - 1 = (popI ((s - 2 ^ x : Nat) : Int)).toNat by omega]
            exact ih
          · exact Nat.zero_le _
        have h1 := sum_le _ key
        have hpp : 1 ≤ (popI (s : Int)).toNat := by
          rcases Nat.lt_or_ge 0 (popI (s : Int)).toNat with h | h
          · exact h
          · exact absurd (pop_zero_fin ⟨s, h64⟩ (by simp only; omega)) h0
        rw [List.length_range] at h1
        have h2 : zs.length * 6 ^ ((popI (s : Int)).toNat - 1) ≤ 6 * 6 ^ ((popI (s : Int)).toNat - 1) := Nat.mul_le_mul_right _ h.1
        have h3 : 6 * 6 ^ ((popI (s : Int)).toNat - 1) = 6 ^ (popI (s : Int)).toNat := by
          rw [← Nat.pow_succ']; exact congrArg (6 ^ ·) (by omega)
        omega
where pop_zero_fin : ∀ s : Fin 64, (popI (s.val : Int)).toNat = 0 → s.val = 0 := by decide +kernel
theorem cF_le {zs : List Int} (h : VoP zs) {s : Nat} (hN : s < 2 ^ zs.length) : cF zs s ≤ 46656 := by
  have h64 := Nat.lt_of_lt_of_le hN (pow_le64 h.1)
  have h1 := cF_bd h s s (Nat.le_refl _) hN
  have h2 := pop_le_fin ⟨s, h64⟩
  exact Nat.le_trans h1 (Nat.pow_le_pow_right (n := 6) (by omega) h2)
/-- The items that may come next, and the sum over them. -/
def nextL (zs : List Int) (s : Nat) : List Nat := itemsL (topsTo (du zs) (s : Int) zs.length)
theorem nextL_is {zs : List Int} (h : VoP zs) (s : Nat) : nextL zs s = (List.range zs.length).filter (eF zs s) := by
  have hb := topsTo_bd (du zs) (s : Int) zs.length
  unfold nextL
  rw [← itemsTo_all hb.2 h.1]
  unfold itemsTo
  refine List.filter_congr fun a ha => ?_
  have han : a < zs.length := by simpa using ha
  rw [Bool.eq_iff_iff, topsTo_bit, bit_cast]
  unfold eF
  simp [han]
theorem nextL_mem {zs : List Int} (h : VoP zs) {s x : Nat} (hx : x ∈ nextL zs s) : x < zs.length ∧ s.testBit x = true := by
  rw [nextL_is h, List.mem_filter] at hx
  unfold eF at hx
  rw [Bool.and_eq_true] at hx
  exact ⟨by simpa using hx.1, hx.2.1⟩
/-- What has been counted when the items of a list are over. -/
def accF (zs : List Int) (s : Nat) (l : List Nat) : Nat := (l.map fun a => cF zs (s - 2 ^ a)).sum
theorem accF_snoc (zs : List Int) (s : Nat) (l : List Nat) (x : Nat) : accF zs s (l ++ [x]) = accF zs s l + cF zs (s - 2 ^ x) := by simp [accF]
theorem accF_all {zs : List Int} (h : VoP zs) {s : Nat} (h0 : s ≠ 0) : accF zs s (nextL zs s) = cF zs s := by
  rw [cF_pos h0, sum_if, nextL_is h]
  rfl
theorem accF_le {zs : List Int} (h : VoP zs) {s : Nat} (h0 : s ≠ 0) (hN : s < 2 ^ zs.length) {l : List Nat} (hl : l <+: nextL zs s) : accF zs s l ≤ 46656 := by
  obtain ⟨t, ht⟩ := hl
  have h1 := accF_all h h0
  have h2 := cF_le h hN
  rw [← ht] at h1
  unfold accF at h1 ⊢
  rw [List.map_append, List.sum_append] at h1
  omega
theorem nextL_len {zs : List Int} (h : VoP zs) (s : Nat) : (nextL zs s).length ≤ 6 := by
  rw [nextL_is h]
  have := List.length_filter_le (eF zs s) (List.range zs.length)
  have := h.1
  rw [List.length_range] at *
  omega
theorem without_fin : ∀ s : Fin 64, ∀ a : Fin 6, s.val.testBit a.val = true → lessI (s.val : Int) (powI (a.val : Int)) = ((s.val - 2 ^ a.val : Nat) : Int) := by decide +kernel
theorem without_is {s a : Nat} (hs : s < 64) (ha : a < 6) (hb : s.testBit a = true) : lessI (s : Int) (powI (a : Int)) = ((s - 2 ^ a : Nat) : Int) := without_fin ⟨s, hs⟩ ⟨a, ha⟩ hb
/-- How often the map is written at most. -/
def writes (s : Nat) : Nat := 7 ^ (popI (s : Int)).toNat
theorem writes_sub {s a : Nat} (hs : s < 64) (ha : a < 6) (hb : s.testBit a = true) : 7 * writes (s - 2 ^ a) = writes s := by
  have hp := pop_sub_fin ⟨s, hs⟩ ⟨a, ha⟩ hb
  simp only at hp
  unfold writes
  rw [← hp, Nat.pow_succ, Nat.mul_comm]
theorem writes_le {s : Nat} (hs : s < 64) : 1 ≤ writes s ∧ writes s ≤ 117649 := by
  have h := pop_le_fin ⟨s, hs⟩
  exact ⟨Nat.pow_pos (by omega), Nat.pow_le_pow_right (n := 7) (by omega) h⟩
end Go.Proofs.Ytipdmaggfbfnlaa
