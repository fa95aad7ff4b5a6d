/- Tops and ideals: tops stand for all below; what is below a set is an ideal; what an ideal leaves. No program. -/
import Derived.Test.YtghogabmkbadjaaGc
import Derived.Test.YtghogabmkbadjaaSetM
set_option linter.unusedVariables false
set_option linter.unusedSimpArgs false
namespace Go.Proofs.Ytghogabmkbadjaa

theorem bit_none {zs : List Int} {a b : Nat} (h : bitB (zs[a]?.getD 0) b = true) : a < zs.length := by
  rcases Nat.lt_or_ge a zs.length with h1 | h1
  · exact h1
  · rw [List.getElem?_eq_none (by omega), Option.getD_none, bitB_zero] at h; cases h
theorem top_over {zs : List Int} (h : VoP zs) {s : Int} (h1 : s < powI zs.length) : ∀ (m a : Nat), zs.length - rank zs a ≤ m → bitB s a = true → ∃ t : Nat, bitB (topsTo zs s zs.length) t = true ∧ (a = t ∨ lt zs a t)
  | 0, a, hm, ha => by have := rank_bd h (bitB_lt h1 ha); omega
  | m + 1, a, hm, ha => by
    by_cases hz : andI (zs[a]?.getD 0) s = 0
    · exact ⟨a, (topsTo_bit a _).2 ⟨bitB_lt h1 ha, ha, hz⟩, .inl rfl⟩
    · have : ∃ b : Nat, bitB s b = true ∧ bitB (zs[a]?.getD 0) b = true := by
        refine Classical.byContradiction fun hn => hz (andI_zero.2 fun b hb => ?_)
        cases e : bitB (zs[a]?.getD 0) b
        · rfl
        · exact absurd ⟨b, hb, e⟩ hn
      obtain ⟨b, hb, hab⟩ := this
      have hl : lt zs a b := ⟨bit_none hab, hab⟩
      have hr := rank_lt h hl
      obtain ⟨t, ht, e⟩ := top_over h h1 m b (by omega) hb
      refine ⟨t, ht, .inr ?_⟩
      rcases e with rfl | e
      · exact hl
      · exact h.trans hl e
section
variable {zs : List Int} {s : Int}
theorem tops_in (zs : List Int) (s : Int) : lessI (topsTo zs s zs.length) s = 0 := lessI_none.2 fun _ hj => ((topsTo_bit _ _).1 hj).2.1
theorem tops_ap (h : VoP zs) : apB zs (topsTo zs s zs.length) = true := by
  have hb := topsTo_bd zs s zs.length
  have hp := powI_le6 (n := (zs.length : Int)) (by have := h.1; omega)
  refine (apB_iff (by omega)).2 fun a b ha hb => ?_
  exact andI_zero.1 ((topsTo_bit _ _).1 ha).2.2 b ((topsTo_bit _ _).1 hb).2.1
theorem tops_none (h : VoP zs) (h0 : 0 ≤ s) (h1 : s < powI zs.length) : (topsTo zs s zs.length == 0) = (s == 0) := by
  have hb := topsTo_bd zs s zs.length
  rw [Bool.eq_iff_iff, beq_iff_eq, beq_iff_eq]
  constructor
  · intro e
    refine bitB_ext h0 (Int.le_refl _) fun j => ?_
    rw [bitB_zero]
    cases hj : bitB s j
    · rfl
    · obtain ⟨t, ht, _⟩ := top_over h h1 _ j (Nat.le_refl _) hj
      rw [e, bitB_zero] at ht; cases ht
  · intro e
    refine bitB_ext hb.1 (Int.le_refl _) fun j => ?_
    rw [bitB_zero]
    cases hj : bitB (topsTo zs s zs.length) j
    · rfl
    · have := ((topsTo_bit _ _).1 hj).2.1
      rw [e, bitB_zero] at this; cases this
theorem in_bel (h : Sets zs) (h1 : s < powI zs.length) : lessI s (belI zs s) = 0 := lessI_none.2 fun j hj => (belI_bit h h1 j).2 (.inl hj)
theorem bel_ideal (h : VoP zs) (h0 : 0 ≤ s) (h1 : s < powI zs.length) : idB zs (belI zs s) = true := by
  have hb := belI_bd h.sets h0 h1
  refine (idB_iff h.sets hb.1 hb.2).2 fun a b hb hz => ?_
  rw [belI_bit h.sets h1] at hb ⊢
  rcases hb with hb | ⟨c, hc, hbc⟩
  · exact .inr ⟨b, hb, hz⟩
  · exact .inr ⟨c, hc, (h.trans (a := a) (b := b) (c := c) ⟨bit_none hz, hz⟩ ⟨bit_none hbc, hbc⟩).2⟩
theorem tops_bel (h : VoP zs) (_h0 : 0 ≤ s) (h1 : s < powI zs.length) : topsTo zs (belI zs s) zs.length = topsTo zs s zs.length := by
  refine bitB_ext (topsTo_bd _ _ _).1 (topsTo_bd _ _ _).1 fun j => ?_
  rw [Bool.eq_iff_iff, topsTo_bit, topsTo_bit]
  constructor
  · rintro ⟨hj, hb, hz⟩
    have hz' := andI_zero.1 hz
    refine ⟨hj, ?_, andI_zero.2 fun b hb => hz' b ((belI_bit h.sets h1 b).2 (.inl hb))⟩
    rcases (belI_bit h.sets h1 j).1 hb with e | ⟨c, hc, hjc⟩
    · exact e
    · rw [hz' c ((belI_bit h.sets h1 c).2 (.inl hc))] at hjc; cases hjc
  · rintro ⟨hj, hb, hz⟩
    have hz' := andI_zero.1 hz
    refine ⟨hj, (belI_bit h.sets h1 j).2 (.inl hb), andI_zero.2 fun b hb => ?_⟩
    rcases (belI_bit h.sets h1 b).1 hb with e | ⟨c, hc, hbc⟩
    · exact hz' b e
    · cases e : bitB (zs[j]?.getD 0) b
      · rfl
      · have := (h.trans (a := j) (b := b) (c := c) ⟨bit_none e, e⟩ ⟨bit_none hbc, hbc⟩).2
        rw [hz' c hc] at this; cases this
theorem bel_tops (h : VoP zs) (h0 : 0 ≤ s) (h1 : s < powI zs.length) : belI zs (topsTo zs s zs.length) = belI zs s := by
  have hb := topsTo_bd zs s zs.length
  refine bitB_ext (belI_bd h.sets hb.1 hb.2).1 (belI_bd h.sets h0 h1).1 fun j => ?_
  rw [Bool.eq_iff_iff, belI_bit h.sets hb.2, belI_bit h.sets h1]
  constructor
  · rintro (e | ⟨t, ht, hj⟩)
    · exact .inl ((topsTo_bit _ _).1 e).2.1
    · exact .inr ⟨t, ((topsTo_bit _ _).1 ht).2.1, hj⟩
  · rintro (e | ⟨b, hb, hj⟩)
    · obtain ⟨t, ht, e2⟩ := top_over h h1 _ j (Nat.le_refl _) e
      rcases e2 with rfl | e2
      · exact .inl ht
      · exact .inr ⟨t, ht, e2.2⟩
    · obtain ⟨t, ht, e2⟩ := top_over h h1 _ b (Nat.le_refl _) hb
      rcases e2 with rfl | e2
      · exact .inr ⟨b, ht, hj⟩
      · exact .inr ⟨t, ht, (h.trans (a := j) (b := b) (c := t) ⟨bit_none hj, hj⟩ e2).2⟩
theorem bel_self (h0 : idB zs s = true) : belI zs s = s := by simpa [idB] using h0
theorem all_bits' {n : Nat} : ∀ j : Nat, bitB (powI n - 1) j = decide (j < n) := fun j => by
  have e : (powI (n : Int) - 1).toNat = 2 ^ n - 1 := by
    have : powI (n : Int) = ((2 ^ n : Nat) : Int) := by simp [powI]
    omega
  simp [bitB, e, Nat.testBit_two_pow_sub_one]
theorem left_fin : ∀ n : Fin 7, ∀ k : Fin 64, (k.val : Int) < powI (n.val : Int) → lessI (powI (n.val : Int) - 1) (k.val : Int) = powI (n.val : Int) - 1 - (k.val : Int) := by decide +kernel
theorem left_is {n : Nat} {s : Int} (hn : n ≤ 6) (h0 : 0 ≤ s) (h1 : s < powI n) : lessI (powI n - 1) s = powI n - 1 - s := by
  have hpn := powI_le6 (n := (n : Int)) (by omega)
  obtain ⟨k, rfl⟩ := Int.eq_ofNat_of_zero_le h0
  exact left_fin ⟨n, by omega⟩ ⟨k, by omega⟩ h1
theorem left_ideal (h : VoP zs) (h0 : 0 ≤ s) (h1 : s < powI zs.length) (hi : idB zs s = true) : idB (du zs) (powI zs.length - 1 - s) = true := by
  have hp := powI_pos (zs.length : Int)
  refine (idB_iff (du_sets h.sets) (by omega) (by rw [du_len]; omega)).2 fun a b hb hz => ?_
  rw [← left_is h.1 h0 h1] at hb ⊢
  rw [bitB_less, all_bits', Bool.and_eq_true] at hb ⊢
  rw [du_bit h.sets] at hz
  have ha : a < zs.length := bitB_lt (h.sets.2 b (bit_none hz)).2 hz
  refine ⟨by simpa using ha, ?_⟩
  cases e : bitB s a
  · rfl
  · have := (idB_iff h.sets h0 h1).1 hi b a e hz
    rw [this] at hb; simp at hb
theorem tops_apart (h : VoP zs) (h0 : 0 ≤ s) (h1 : s < powI zs.length) (ha : apB zs s = true) : topsTo zs s zs.length = s := by
  have hp := powI_le6 (n := (zs.length : Int)) (by have := h.1; omega)
  refine bitB_ext (topsTo_bd zs s _).1 h0 fun j => ?_
  have key := topsTo_bit (zs := zs) (s := s) j zs.length
  cases e : bitB s j
  · cases e2 : bitB (topsTo zs s zs.length) j
    · rfl
    · have := (key.1 e2).2.1; rw [e] at this; cases this
  · exact key.2 ⟨bitB_lt h1 e, e, andI_zero.2 fun b hb => (apB_iff (by omega)).1 ha j b e hb⟩
/-- The tops of the next ideal are the lowest items that the one ahead lacks. -/
theorem next_tops (h : VoP zs) (_h0 : 0 ≤ s) (_h1 : s < powI zs.length) : topsTo zs (nextI zs s) zs.length = topsTo (du zs) (powI zs.length - 1 - s) zs.length := by
  have hp := powI_pos (zs.length : Int)
  have hp6 := powI_le6 (n := (zs.length : Int)) (by have := h.1; omega)
  have hb := topsTo_bd (du zs) (powI zs.length - 1 - s) zs.length
  have ha := tops_ap (s := powI zs.length - 1 - s) (du_vo h)
  rw [du_len, du_apB h.sets (by omega)] at ha
  unfold nextI
  rw [tops_bel h hb.1 hb.2, tops_apart h hb.1 hb.2 ha]
end
theorem in_set {zs : List Int} {s : Int} (_h : VoP zs) (h0 : 0 ≤ s) (h1 : s < powI zs.length) : inB s 0 (powI zs.length - 1) = true := by
  simp only [inB, decide_eq_true_eq]; omega
theorem set_parts {zs : List Int} {s : Int} (h : (vo zs && inB s 0 (powI zs.length - 1)) = true) : VoP zs ∧ 0 ≤ s ∧ s < powI zs.length := by
  rw [Bool.and_eq_true] at h
  refine ⟨by simpa [vo] using h.1, ?_⟩
  have := h.2
  simp only [inB, decide_eq_true_eq] at this
  omega
theorem topsR_in {zs : List Int} {s : Int} (h : VoP zs) (h0 : 0 ≤ s) (h1 : s < powI zs.length) : topsR zs s = topsTo zs s zs.length := by
  unfold topsR; rw [vo_true h, in_set h h0 h1]; rfl
theorem belowR_in {zs : List Int} {s : Int} (h : VoP zs) (h0 : 0 ≤ s) (h1 : s < powI zs.length) : belowR zs s = belI zs s := by
  unfold belowR; rw [vo_true h, in_set h h0 h1]; rfl
theorem isIdealR_in {zs : List Int} {s : Int} (h : VoP zs) (h0 : 0 ≤ s) (h1 : s < powI zs.length) : isIdealR zs s = idB zs s := by
  unfold isIdealR; rw [vo_true h, in_set h h0 h1]; rfl
end Go.Proofs.Ytghogabmkbadjaa
