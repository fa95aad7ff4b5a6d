/- Levels part all items, and are apart. No program. -/
import Derived.Test.YtgeicciieagbgaaParts
import Derived.Test.YtgeicciieagbgaaLvs
import Derived.Test.YtgeicciieagbgaaChIs
namespace Go.Proofs.Ytgeicciieagbgaa

theorem lv_bit {zs : List Int} (i j : Nat) (hi : i < (longI zs).toNat) : ∀ k : Nat, k ≤ zs.length → (bitB ((lvTo zs k)[i]?.getD 0) j = true ↔ j < k ∧ (hgt zs j).toNat = i)
  | 0, _ => by
    have : ((lvTo zs 0)[i]?.getD 0) = 0 := by simp [lvTo, hi]
    rw [this, bitB_zero]; simp
  | k + 1, hk => by
    have ih := lv_bit (zs := zs) i j hi k (by omega)
    have hl := lvTo_at (zs := zs) rfl (show k < zs.length by omega)
    rw [lvTo_succ]
    by_cases he : (hgt zs k).toNat = i
    · subst he
      rw [List.getElem?_set_self hl, Option.getD_some, bitB_or, bitB_pow, Bool.or_eq_true, ih, decide_eq_true_eq]
      constructor
      · rintro (⟨h1, h2⟩ | rfl)
        · exact ⟨by omega, h2⟩
        · exact ⟨by omega, rfl⟩
      · rintro ⟨h1, h2⟩
        by_cases hjk : k = j
        · exact .inr hjk
        · exact .inl ⟨by omega, h2⟩
    · rw [List.getElem?_set_ne he, ih]
      constructor
      · rintro ⟨h1, h2⟩; exact ⟨by omega, h2⟩
      · rintro ⟨h1, h2⟩
        refine ⟨?_, h2⟩
        by_cases hjk : k = j
        · subst hjk; exact absurd h2 he
        · omega
theorem levels_is {zs : List Int} (h : VoP zs) : levelsR zs = lvTo zs zs.length := by unfold levelsR; rw [vo_true h]; rfl
theorem levels_len {zs : List Int} (h : VoP zs) : (levelsR zs).length = (longI zs).toNat := by rw [levels_is h, lvTo_len]
theorem level_bit {zs : List Int} (h : VoP zs) {i : Nat} (hi : i < (longI zs).toNat) (j : Nat) : bitB ((levelsR zs)[i]?.getD 0) j = true ↔ j < zs.length ∧ (hgt zs j).toNat = i := by
  rw [levels_is h]; exact lv_bit i j hi _ (Nat.le_refl _)
theorem level_bd {zs : List Int} (h : VoP zs) (i : Nat) : 0 ≤ (levelsR zs)[i]?.getD 0 ∧ (levelsR zs)[i]?.getD 0 < powI zs.length := by
  rw [levels_is h]; exact lvTo_bd zs _ i
theorem levels_parts {zs : List Int} (h : VoP zs) : PartsOk (levelsR zs) zs.length where
  n6 := h.1
  bd := fun i _ => level_bd h i
  apart := fun i k j hik hk h1 h2 => by
    rw [levels_len h] at hk
    have e1 := (level_bit h (by omega) j).1 h1
    have e2 := (level_bit h hk j).1 h2
    omega
  all := fun j hj => by
    have h1 := longI_gt (zs := zs) hj
    have h2 := hgt_nn zs j
    exact ⟨(hgt zs j).toNat, by rw [levels_len h]; omega, (level_bit h (by omega) j).2 ⟨hj, rfl⟩⟩
theorem hgt_down {zs : List Int} (h : VoP zs) : ∀ (d b i : Nat), b < zs.length → hgt zs b = ((i + d : Nat) : Int) → ∃ a, a < zs.length ∧ hgt zs a = (i : Int)
  | 0, b, i, hb, e => ⟨b, hb, by simpa using e⟩
  | d + 1, b, i, hb, e => by
    rcases hgt_eq h hb with h0 | ⟨a, hl, ha⟩
    · omega
    · exact hgt_down h d a i hl.1 (by omega)
theorem height_ex {zs : List Int} (h : VoP zs) {i : Nat} (hi : i < (longI zs).toNat) : ∃ a, a < zs.length ∧ hgt zs a = (i : Int) := by
  rcases maxL_eq (hgt zs) (List.range zs.length) with h0 | ⟨a, ha, e⟩
  · exfalso; unfold longI at hi; omega
  · have e' : longI zs = hgt zs a + 1 := e
    have h2 := hgt_nn zs a
    exact hgt_down h ((longI zs).toNat - 1 - i) a i (List.mem_range.1 ha) (by omega)
theorem level_some {zs : List Int} (h : VoP zs) {i : Nat} (hi : i < (longI zs).toNat) : (levelsR zs)[i]?.getD 0 ≠ 0 := fun e => by
  obtain ⟨a, ha, he⟩ := height_ex h hi
  have := (level_bit h hi a).2 ⟨ha, by omega⟩
  rw [e, bitB_zero] at this
  cases this
theorem level_apart {zs : List Int} (h : VoP zs) {i : Nat} (hi : i < (longI zs).toNat) : isApartR zs ((levelsR zs)[i]?.getD 0) = true := by
  have hb := level_bd h i
  have hp := powI_le6 (n := (zs.length : Int)) (by have := h.1; omega)
  have ha : apB zs ((levelsR zs)[i]?.getD 0) = true := (apB_iff (by omega)).2 fun a b h1 h2 => by
    have e1 := (level_bit h hi a).1 h1
    have e2 := (level_bit h hi b).1 h2
    cases e : bitB (zs[a]?.getD 0) b
    · rfl
    · have := hgt_up h ⟨e1.1, e⟩
      have := hgt_nn zs a
      omega
  unfold isApartR
  rw [vo_true h, ha]
  simp only [Bool.true_and, Bool.and_true, inB, decide_eq_true_eq]
  omega
end Go.Proofs.Ytgeicciieagbgaa
