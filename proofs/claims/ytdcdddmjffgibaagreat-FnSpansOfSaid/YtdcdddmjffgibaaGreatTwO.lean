/- Two pairs apart, three items and one apart: turned round, and what they need (mathematics). No program. -/
import Derived.Test.YtdcdddmjffgibaaGreatTwM
import Derived.Test.YtdcdddmjffgibaaGreatGc
import Derived.Test.YtdcdddmjffgibaaGreatWide
set_option linter.unusedVariables false
set_option linter.unusedSimpArgs false
namespace Go.Proofs.YtdcdddmjffgibaaGreat
open Go.RowKit

theorem duw_rel {zs : List Int} (h : Sets zs) (a b : Nat) : relB (du zs) a b = relB zs a b := by
  unfold relB
  rw [du_bit h, du_bit h, Bool.or_comm]
theorem du_two' {zs : List Int} (h : VoP zs) (ht : twoB zs = true) : twoB (du zs) = true := by
  unfold twoB at *
  obtain ⟨a, b, c, d, ha, hb, hc, hd, ht⟩ := any4_iff.1 ht
  rw [du_len]
  refine any4_some hb ha hd hc ?_
  simp only [tstTwo, Bool.and_eq_true, Bool.not_eq_true', beq_eq_false_iff_ne] at ht ⊢
  obtain ⟨h1, h2, h3, h4, h5, h6, h7, h8, h9, h10⟩ := ht
  exact ⟨by rw [du_bit h.sets]; exact h1, by rw [du_bit h.sets]; exact h2, h6, h5, h4, h3, by rw [duw_rel h.sets]; exact h10, by rw [duw_rel h.sets]; exact h9, by rw [duw_rel h.sets]; exact h8, by rw [duw_rel h.sets]; exact h7⟩
theorem du_two {zs : List Int} (h : VoP zs) : twoB (du zs) = twoB zs := by
  rw [Bool.eq_iff_iff]
  exact ⟨fun e => by have := du_two' (du_vo h) e; rwa [du_du h] at this, du_two' h⟩
theorem du_thr {zs : List Int} (h : VoP zs) (ht : thrB zs = true) : thrB (du zs) = true := by
  unfold thrB at *
  obtain ⟨a, b, c, d, ha, hb, hc, hd, ht⟩ := any4_iff.1 ht
  rw [du_len]
  refine any4_some hc hb ha hd ?_
  simp only [tstThr, Bool.and_eq_true, Bool.not_eq_true', beq_eq_false_iff_ne] at ht ⊢
  obtain ⟨h1, h2, h3, h4, h5, h6, h7, h8⟩ := ht
  exact ⟨by rw [du_bit h.sets]; exact h2, by rw [du_bit h.sets]; exact h1, h5, h4, h3, by rw [duw_rel h.sets]; exact h8, by rw [duw_rel h.sets]; exact h7, by rw [duw_rel h.sets]; exact h6⟩
theorem thr_long {zs : List Int} (h : VoP zs) (ht : thrB zs = true) : 3 ≤ longI zs := by
  unfold thrB at ht
  obtain ⟨a, b, c, d, ha, hb, hc, hd, ht⟩ := any4_iff.1 ht
  simp only [tstThr, Bool.and_eq_true] at ht
  have h1 := hgt_up h (a := a) (b := b) ⟨ha, ht.1⟩
  have h2 := hgt_up h (a := b) (b := c) ⟨hb, ht.2.1⟩
  have h3 := longI_gt hc
  have h4 := hgt_nn zs a
  omega
theorem popw_two : ∀ a b : Fin 6, a ≠ b → popI (prI a.val b.val) = 2 := by decide +kernel
theorem wide_two {zs : List Int} (h : VoP zs) {a b : Nat} (ha : a < zs.length) (hb : b < zs.length) (hne : a ≠ b) (hr : relB zs a b = false) : 2 ≤ wideR zs := by
  have h6 := h.1
  have hp6 := powI_le6 (n := (zs.length : Int)) (by omega)
  have hpr := prI_bd ha hb
  have hp2 := popw_two ⟨a, by omega⟩ ⟨b, by omega⟩ (by simpa using hne)
  simp only at hp2
  unfold relB at hr
  rw [Bool.or_eq_false_iff] at hr
  have hap : apB zs (prI a b) = true := by
    cases e : apB zs (prI a b) with
    | true => rfl
    | false =>
      obtain ⟨x, y, hx, hy, hxy⟩ := apB_false (by omega) e
      rw [prI_bit] at hx hy
      rcases hx with rfl | rfl <;> rcases hy with rfl | rfl
      · rw [h.irrB ha] at hxy; cases hxy
      · rw [hr.1] at hxy; cases hxy
      · rw [hr.2] at hxy; cases hxy
      · rw [h.irrB hb] at hxy; cases hxy
  obtain ⟨s, hs⟩ := Int.eq_ofNat_of_zero_le hpr.1
  have hpw := setsN_pow zs
  rw [hs] at hap hp2 hpr
  have := grTo_ge (p := apB zs) (j := s) hap (setsN zs) (by omega)
  unfold wideR
  rw [vo_true h, if_pos rfl]
  omega
theorem thr_wide {zs : List Int} (h : VoP zs) (ht : thrB zs = true) : 2 ≤ wideR zs := by
  unfold thrB at ht
  obtain ⟨a, b, c, d, ha, hb, hc, hd, ht⟩ := any4_iff.1 ht
  simp only [tstThr, Bool.and_eq_true, Bool.not_eq_true', beq_eq_false_iff_ne] at ht
  exact wide_two h ha hd (Ne.symm ht.2.2.1) ht.2.2.2.2.2.1
theorem two_wide {zs : List Int} (h : VoP zs) (ht : twoB zs = true) : 2 ≤ wideR zs ∧ 4 ≤ zs.length := by
  unfold twoB at ht
  obtain ⟨a, b, c, d, ha, hb, hc, hd, ht⟩ := any4_iff.1 ht
  simp only [tstTwo, Bool.and_eq_true, Bool.not_eq_true', beq_eq_false_iff_ne] at ht
  obtain ⟨h1, h2, h3, h4, h5, h6, h7, h8, h9, h10⟩ := ht
  refine ⟨wide_two h ha hc h3 h7, ?_⟩
  have n1 : a ≠ b := fun e => by rw [← e, h.irrB ha] at h1; cases h1
  have n2 : c ≠ d := fun e => by rw [← e, h.irrB hc] at h2; cases h2
  omega
end Go.Proofs.YtdcdddmjffgibaaGreat
