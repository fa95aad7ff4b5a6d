/- What the own laws of lines ask of the mathematics, put together. No program. -/
import Derived.Test.YtghogabmkbadjaaBackM
import Derived.Test.YtghogabmkbadjaaTopM
import Derived.Test.YtghogabmkbadjaaGc
import Derived.Test.YtghogabmkbadjaaGa
set_option linter.unusedVariables false
set_option linter.unusedSimpArgs false
namespace Go.Proofs.Ytghogabmkbadjaa

theorem next_some {zs : List Int} (h : VoP zs) {s : Nat} (hs : s < 2 ^ zs.length) (h0 : s ≠ 0) : nextL zs s ≠ [] := by
  intro e
  have hn6 := h.1
  have hp64 := pow_le64 hn6
  have hpi : powI (zs.length : Int) = ((2 ^ zs.length : Nat) : Int) := by simp [powI]
  have hd := du_vo h
  have ht := tops_none (zs := du zs) (s := (s : Int)) hd (by omega) (by rw [du_len, hpi]; omega)
  rw [du_len] at ht
  have hT := topsTo_bd (du zs) (s : Int) zs.length
  have hz : topsTo (du zs) (s : Int) zs.length = 0 := by
    refine bitB_ext hT.1 (Int.le_refl _) fun j => ?_
    rw [bitB_zero]
    cases hb : bitB (topsTo (du zs) (s : Int) zs.length) j
    · rfl
    · have hj := bitB_lt hT.2 hb
      have : j ∈ nextL zs s := by
        rw [nextL_is h, List.mem_filter, List.mem_range]
        refine ⟨hj, ?_⟩
        rw [topsTo_bit] at hb
        obtain ⟨_, b1, b2⟩ := hb
        rw [bit_cast] at b1
        unfold eF
        rw [b1, b2]; rfl
      rw [e] at this; cases this
  rw [hz] at ht
  have h1 : ((s : Int) == 0) = false := by simpa using h0
  rw [h1] at ht
  cases ht
theorem cF_ge1 {zs : List Int} (h : VoP zs) : ∀ (k s : Nat), s ≤ k → s < 2 ^ zs.length → 1 ≤ cF zs s
  | 0, s, hk, _ => by
    obtain rfl : s = 0 := by omega
    rw [cF_zero]; exact Nat.le_refl _
  | k + 1, s, hk, hs => by
    by_cases h0 : s = 0
    · subst h0; rw [cF_zero]; exact Nat.le_refl _
    · rw [← accF_all h h0]
      have hne := next_some h hs h0
      unfold accF
      cases hL : nextL zs s with
      | nil => exact absurd hL hne
      | cons x l =>
        have hlt := sub_lt (a := x) h0
        have ih := cF_ge1 h k (s - 2 ^ x) (by omega) (by omega)
        rw [List.map_cons, List.sum_cons]
        omega
theorem lines_facts {zs : List Int} (h : VoP zs) : ∃ F : Nat, 1 ≤ F ∧ F ≤ 46656 ∧ linesR zs = (F : Int) ∧ linesR (du zs) = (F : Int) ∧ hasAt zs ((F : Int) - 1) = true ∧ hasAt zs (F : Int) = false := by
  have hp := Nat.two_pow_pos zs.length
  have hv : vo zs = true := by simpa [vo] using h
  have hv2 : vo (du zs) = true := by simpa [vo] using du_vo h
  have hF := cF_le h (s := 2 ^ zs.length - 1) (by omega)
  have h1 := cF_ge1 h _ (2 ^ zs.length - 1) (Nat.le_refl _) (by omega)
  have h2 := count_du h
  have h3 := count_both h
  have h4 := count_both (du_vo h)
  rw [du_len] at h4
  obtain ⟨F, hFF⟩ : ∃ F, cF zs (2 ^ zs.length - 1) = F := ⟨_, rfl⟩
  rw [hFF] at hF h1 h2 h3
  refine ⟨F, h1, hF, ?_, ?_, ?_, ?_⟩
  · unfold linesR; rw [hv, if_pos rfl, h3]
  · unfold linesR; rw [hv2, if_pos rfl, du_len, h4, h2]
  · unfold hasAt; rw [hv, hFF, decide_eq_true (show (0 : Int) ≤ (F : Int) - 1 by omega), decide_eq_true (show (F : Int) - 1 < (F : Int) by omega)]; rfl
  · unfold hasAt; rw [hFF, decide_eq_false (show ¬ (F : Int) < (F : Int) by omega)]; simp
theorem atR_few (zs : List Int) (r : Int) : (atR zs r).length ≤ 6 := by
  unfold atR
  cases hh : hasAt zs r
  · simp
  · unfold hasAt at hh
    rw [Bool.and_eq_true] at hh
    have hvo : VoP zs := by simpa [vo] using hh.1
    have := hvo.1
    rw [if_pos rfl, atL_len]; omega
theorem at_facts {zs : List Int} {r : Int} (hh : hasAt zs r = true) : isLineR zs (atR zs r) = true ∧ rankR zs (atR zs r) = r := by
  have hA : atR zs r = atL zs r.toNat zs.length := by unfold atR; rw [hh]; rfl
  unfold hasAt at hh
  rw [Bool.and_eq_true, Bool.and_eq_true, decide_eq_true_eq, decide_eq_true_eq] at hh
  have hvo : VoP zs := by simpa [vo] using hh.1
  obtain ⟨h1, h2⟩ := rank_at hvo (r := r.toNat) (by omega)
  have hI : isLineR zs (atR zs r) = true := by unfold isLineR; rw [hA, hh.1, h1]; rfl
  refine ⟨hI, ?_⟩
  unfold rankR
  rw [hI, if_pos rfl, hA, atL_len, h2]
  omega
theorem rank_facts {zs ls : List Int} (h : isLineR zs ls = true) : ∃ Q F : Nat, Q < F ∧ F ≤ 46656 ∧ rankR zs ls = (Q : Int) ∧ linesR zs = (F : Int) ∧ hasAt zs (Q : Int) = true ∧ atR zs (Q : Int) = ls ∧ ls.length ≤ 6 := by
  have h' := h
  unfold isLineR at h
  rw [Bool.and_eq_true] at h
  have hvo : VoP zs := by simpa [vo] using h.1
  have hp := Nat.two_pow_pos zs.length
  have hF := cF_le hvo (s := 2 ^ zs.length - 1) (by omega)
  obtain ⟨h1, h2⟩ := at_rank hvo h.2
  have hlen := (line_steps h.2).1
  have hn6 := hvo.1
  have hH : hasAt zs (rkUp zs ls zs.length : Int) = true := by
    unfold hasAt; rw [h.1, decide_eq_true (show (0 : Int) ≤ (rkUp zs ls zs.length : Int) by omega), decide_eq_true (show (rkUp zs ls zs.length : Int) < (cF zs (2 ^ zs.length - 1) : Int) by omega)]; rfl
  refine ⟨rkUp zs ls zs.length, cF zs (2 ^ zs.length - 1), h1, hF, ?_, ?_, hH, ?_, by omega⟩
  · unfold rankR; rw [h', if_pos rfl, hlen]
  · unfold linesR; rw [h.1, if_pos rfl, count_both hvo]
  · unfold atR; rw [hH, if_pos rfl, Int.toNat_natCast]; exact h2
theorem back_fact {zs ls : List Int} (h : isLineR zs ls = true) : isLineR (du zs) ls.reverse = true := by
  unfold isLineR at h ⊢
  rw [Bool.and_eq_true] at h
  have hvo : VoP zs := by simpa [vo] using h.1
  rw [line_back hvo h.2, show vo (du zs) = true by simpa [vo] using du_vo hvo]; rfl
theorem dual_fact {zs ls : List Int} (h : isLineR zs ls = true) : dualR zs = du zs := by
  unfold isLineR at h
  rw [Bool.and_eq_true] at h
  unfold dualR
  rw [h.1]; rfl
end Go.Proofs.Ytghogabmkbadjaa
