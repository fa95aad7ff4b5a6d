/- Ranks and lines tell each other, as plain mathematics. No program. -/
import Derived.Test.YtghogabmkbadjaaAtM
set_option linter.unusedVariables false
set_option linter.unusedSimpArgs false
namespace Go.Proofs.Ytghogabmkbadjaa

theorem pk_of {zs : List Int} {D r x : Nat} (hx : x < zs.length) (h1 : rkIn zs D x ≤ r) (h2 : r < rkIn zs D (x + 1)) : pk zs D r = x := by
  have hr : r < rkIn zs D zs.length := Nat.lt_of_lt_of_le h2 (rkIn_mono' hx)
  obtain ⟨_, p2, p3⟩ := pk_ok hr
  rcases Nat.lt_trichotomy (pk zs D r) x with h | h | h
  · have := rkIn_mono' (zs := zs) (D := D) (show pk zs D r + 1 ≤ x from h); omega
  · exact h
  · have := rkIn_mono' (zs := zs) (D := D) (show x + 1 ≤ pk zs D r from h); omega
theorem full_fin : ∀ n : Fin 7, ∀ s : Fin 64, s.val < 2 ^ n.val → popI (s.val : Int) = (n.val : Int) → 2 ^ n.val - 1 - s.val = 0 := by decide +kernel

section
variable {zs ls : List Int}
theorem line_next (_ : VoP zs) (hs : ∀ k, k < zs.length → stepOk zs ls k = true) {k : Nat} (hk : k < zs.length) : nextE zs (dN ls k) (itN ls k) = true := by
  have hok : ∀ i, i < k → stepOk zs ls i = true := fun i hi => hs i (by omega)
  have h1 := hs k hk
  have h2 := d_new hok h1
  have h3 := (it_is h1).1
  have h4 := (d_is hok).1
  unfold stepOk at h1
  rw [Bool.and_eq_true, Bool.and_eq_true, h3, h4, Int.toNat_natCast] at h1
  unfold nextE
  rw [h2, h1.2.2]; rfl
theorem line_pop (hv : VoP zs) (hs : ∀ k, k < zs.length → stepOk zs ls k = true) : ∀ k : Nat, k ≤ zs.length → popI (dN ls k : Int) = k
  | 0, _ => (by decide +kernel : popI ((0 : Nat) : Int) = ((0 : Nat) : Int))
  | k + 1, hk => by
    have hn6 := hv.1
    have hp64 := pow_le64 hn6
    have ih := line_pop hv hs k (by omega)
    have hok : ∀ i, i < k → stepOk zs ls i = true := fun i hi => hs i (by omega)
    have h1 := hs k (by omega)
    have h2 := d_new hok h1
    have h3 := (it_is h1).2
    have h4 := (d_is hok).2
    rw [d_succ hv hok h1]
    have := pop_add_fin ⟨dN ls k, by omega⟩ ⟨itN ls k, by omega⟩ h2
    simp only at this
    rw [this, ih]; omega
theorem line_full (hv : VoP zs) (hs : ∀ k, k < zs.length → stepOk zs ls k = true) : 2 ^ zs.length - 1 - dN ls zs.length = 0 := by
  have hn6 := hv.1
  have hp64 := pow_le64 hn6
  have h4 := (d_is (zs := zs) (ls := ls) (k := zs.length) fun i hi => hs i hi).2
  exact full_fin ⟨zs.length, by omega⟩ ⟨dN ls zs.length, by omega⟩ h4 (line_pop hv hs _ (Nat.le_refl _))
theorem rkUp_mono : ∀ d k : Nat, rkUp zs ls k ≤ rkUp zs ls (k + d)
  | 0, _ => Nat.le_refl _
  | d + 1, k => by
    have := rkUp_mono d k
    rw [← Nat.add_assoc]
    exact Nat.le_trans this (Nat.le_add_right _ _)
theorem rkUp_mono' {a b : Nat} (h : a ≤ b) : rkUp zs ls a ≤ rkUp zs ls b := by
  have := rkUp_mono (zs := zs) (ls := ls) (b - a) a
  rwa [show a + (b - a) = b by omega] at this
theorem rkUp_succ (k : Nat) : rkUp zs ls (k + 1) = rkUp zs ls k + rkIn zs (dN ls k) (itN ls k) := rfl
theorem rkIn_line (hv : VoP zs) (hs : ∀ k, k < zs.length → stepOk zs ls k = true) {k : Nat} (hk : k < zs.length) :
    rkIn zs (dN ls k) (itN ls k + 1) = rkIn zs (dN ls k) (itN ls k) + cF zs (2 ^ zs.length - 1 - dN ls (k + 1)) := by
  rw [rkIn_succ, line_next hv hs hk, if_pos rfl, d_succ hv (fun i hi => hs i (by omega)) (hs k hk)]
theorem line_lt (hv : VoP zs) (hs : ∀ k, k < zs.length → stepOk zs ls k = true) : ∀ m k : Nat, m + k = zs.length → rkUp zs ls zs.length - rkUp zs ls k < cF zs (2 ^ zs.length - 1 - dN ls k)
  | 0, k, e => by
    obtain rfl : k = zs.length := by omega
    rw [line_full hv hs, cF_zero]; omega
  | m + 1, k, e => by
    have ih := line_lt hv hs m (k + 1) (by omega)
    have hk : k < zs.length := by omega
    have hn6 := hv.1
    have hp64 := pow_le64 hn6
    have h4 := (d_is (zs := zs) (ls := ls) (k := k) fun i hi => hs i (by omega)).2
    have h0 := pop_full_fin ⟨zs.length, by omega⟩ ⟨dN ls k, by omega⟩ h4 (by show popI ((dN ls k : Nat) : Int) < (zs.length : Int); rw [line_pop hv hs k (by omega)]; omega)
    simp only at h0
    have h5 := rkIn_all hv h4 h0
    have h6 := rkIn_line hv hs hk
    have h7 := rkIn_mono' (zs := zs) (D := dN ls k) (show itN ls k + 1 ≤ zs.length from (it_is (hs k hk)).2)
    have h8 := rkUp_mono' (zs := zs) (ls := ls) (show k + 1 ≤ zs.length from hk)
    rw [rkUp_succ] at ih h8
    omega
theorem stA_line (hv : VoP zs) (hs : ∀ k, k < zs.length → stepOk zs ls k = true) : ∀ k : Nat, k ≤ zs.length → stA zs (rkUp zs ls zs.length) k = (dN ls k, rkUp zs ls zs.length - rkUp zs ls k)
  | 0, _ => rfl
  | k + 1, hk => by
    have ih := stA_line hv hs k (by omega)
    have h5 := line_lt hv hs (zs.length - (k + 1)) (k + 1) (by omega)
    have h6 := rkIn_line hv hs (show k < zs.length from hk)
    have h8 := rkUp_mono' (zs := zs) (ls := ls) hk
    have hp : pk zs (dN ls k) (rkUp zs ls zs.length - rkUp zs ls k) = itN ls k := pk_of (it_is (hs k hk)).2 (by rw [rkUp_succ] at h8; omega) (by rw [rkUp_succ] at h8 h5; omega)
    unfold stA
    rw [ih]
    simp only
    rw [hp, d_succ hv (fun i hi => hs i (by omega)) (hs k hk), rkUp_succ, Nat.sub_sub]
theorem pk_line (hv : VoP zs) (hs : ∀ k, k < zs.length → stepOk zs ls k = true) {k : Nat} (hk : k < zs.length) : pk zs (dN ls k) (rkUp zs ls zs.length - rkUp zs ls k) = itN ls k := by
  have h5 := line_lt hv hs (zs.length - (k + 1)) (k + 1) (by omega)
  have h6 := rkIn_line hv hs hk
  have h8 := rkUp_mono' (zs := zs) (ls := ls) (show k + 1 ≤ zs.length from hk)
  exact pk_of (it_is (hs k hk)).2 (by rw [rkUp_succ] at h8; omega) (by rw [rkUp_succ] at h8 h5; omega)
theorem atL_take (hv : VoP zs) (hl : ls.length = zs.length) (hs : ∀ k, k < zs.length → stepOk zs ls k = true) : ∀ k : Nat, k ≤ zs.length → atL zs (rkUp zs ls zs.length) k = ls.take k
  | 0, _ => by simp [atL]
  | k + 1, hk => by
    have ih := atL_take hv hl hs k (by omega)
    unfold atL
    rw [ih, stA_line hv hs k (by omega), pk_line hv hs (by omega), List.take_add_one, List.getElem?_eq_getElem (by omega)]
    have h3 := (it_is (hs k hk)).1
    rw [List.getElem?_eq_getElem (by omega)] at h3
    simp at h3
    simp [h3]
/-- A line is the one of its rank. -/
theorem at_rank (hv : VoP zs) (hl : lineB zs ls = true) : rkUp zs ls zs.length < cF zs (2 ^ zs.length - 1) ∧ atL zs (rkUp zs ls zs.length) zs.length = ls := by
  obtain ⟨h1, hs⟩ := line_steps hl
  refine ⟨?_, by rw [atL_take hv h1 hs _ (Nat.le_refl _), List.take_of_length_le (by omega)]⟩
  have := line_lt hv hs zs.length 0 (by omega)
  have e : dN ls 0 = 0 := rfl
  have e2 : rkUp zs ls 0 = 0 := rfl
  rw [e, e2] at this
  simpa using this
end

section
variable {zs : List Int} {r : Nat}
theorem atL_at : ∀ m k : Nat, k < m → (atL zs r m)[k]?.getD 0 = (pk zs (stA zs r k).1 (stA zs r k).2 : Int)
  | m + 1, k, hk => by
    unfold atL
    rcases Nat.lt_or_ge k m with h | h
    · rw [List.getElem?_append_left (by rw [atL_len]; exact h)]; exact atL_at m k h
    · obtain rfl : k = m := by omega
      rw [List.getElem?_append_right (by rw [atL_len]; exact Nat.le_refl _), atL_len]; simp
theorem atL_done (hv : VoP zs) (hr : r < cF zs (2 ^ zs.length - 1)) : ∀ k : Nat, k ≤ zs.length → doneTo (atL zs r zs.length) k = ((stA zs r k).1 : Int)
  | 0, _ => rfl
  | k + 1, hk => by
    have ih := atL_done hv hr k (by omega)
    have hn6 := hv.1
    have hp64 := pow_le64 hn6
    obtain ⟨h1, _, h3⟩ := stA_step hv hr (show k < zs.length from hk)
    have hp := pk_ok h3
    have hb := (nextE_new (pk_next h3)).1
    unfold doneTo
    rw [ih, atL_at _ _ (show k < zs.length from hk), or_is (by omega) (by omega) hb]
    rfl
theorem atL_step (hv : VoP zs) (hr : r < cF zs (2 ^ zs.length - 1)) {k : Nat} (hk : k < zs.length) : stepOk zs (atL zs r zs.length) k = true := by
  obtain ⟨h1, _, h3⟩ := stA_step hv hr hk
  have hp := pk_ok h3
  have hb := nextE_new (pk_next h3)
  unfold stepOk
  rw [atL_at _ _ hk, atL_done hv hr k (by omega), Int.toNat_natCast, bit_cast, hb.1, hb.2]
  simp [inB]; omega
/-- The line of a rank is one, and has that rank. -/
theorem rank_at (hv : VoP zs) (hr : r < cF zs (2 ^ zs.length - 1)) : lineB zs (atL zs r zs.length) = true ∧ rkUp zs (atL zs r zs.length) zs.length = r := by
  have hs : ∀ k, k < zs.length → stepOk zs (atL zs r zs.length) k = true := fun k hk => atL_step hv hr hk
  refine ⟨lineB_yes (atL_len _ _ _) rfl hs, ?_⟩
  have hd : ∀ k, k ≤ zs.length → dN (atL zs r zs.length) k = (stA zs r k).1 := fun k hk => by unfold dN; rw [atL_done hv hr k hk]; rfl
  have key : ∀ k : Nat, k ≤ zs.length → rkUp zs (atL zs r zs.length) k + (stA zs r k).2 = r := by
    intro k
    induction k with
    | zero => intro _; simp [rkUp, stA]
    | succ k ih =>
      intro hk
      have ih := ih (by omega)
      obtain ⟨h1, _, h3⟩ := stA_step hv hr (show k < zs.length from hk)
      have hp := pk_ok h3
      have hi : itN (atL zs r zs.length) k = pk zs (stA zs r k).1 (stA zs r k).2 := by unfold itN; rw [atL_at _ _ (show k < zs.length from hk)]; rfl
      have e2 : (stA zs r (k + 1)).2 = (stA zs r k).2 - rkIn zs (stA zs r k).1 (pk zs (stA zs r k).1 (stA zs r k).2) := rfl
      rw [rkUp_succ, hd k (by omega), hi, e2]
      omega
  have h0 := key zs.length (Nat.le_refl _)
  have h1 := (stA_ok hv hr zs.length (Nat.le_refl _)).2.2
  rw [← hd _ (Nat.le_refl _), line_full hv hs, cF_zero] at h1
  omega
end

/-! Turned round. -/
theorem below_any {zs : List Int} (h : VoP zs) {s a : Nat} (hs : s < 2 ^ zs.length) : belowAny zs s a = false ↔ andI (zs[a]?.getD 0) (s : Int) = 0 := by
  unfold belowAny
  rw [andI_zero]
  constructor
  · intro e j hj
    rw [bit_cast] at hj
    have hjn := bit_lt hs hj
    cases e2 : bitB (zs[a]?.getD 0) j
    · rfl
    · have : ((List.range zs.length).any fun b => s.testBit b && bitB ((du zs)[b]?.getD 0) a) = true := by
        rw [List.any_eq_true]
        exact ⟨j, List.mem_range.2 hjn, by rw [du_bit h.sets, hj, e2]; rfl⟩
      rw [e] at this; cases this
  · intro e
    rw [List.any_eq_false]
    intro b _ hb
    rw [Bool.and_eq_true, du_bit h.sets] at hb
    have := e b (by rw [bit_cast]; exact hb.1)
    rw [hb.2] at this; cases this
theorem eF_du {zs : List Int} (h : VoP zs) {s a : Nat} (hs : s < 2 ^ zs.length) (hI : Ideal zs s) : eF (du zs) s a = eG zs s a := by
  unfold eF eG
  rw [du_du h]
  cases hb : s.testBit a
  · rfl
  · have h1 : (lessI ((du zs)[a]?.getD 0) (s : Int) == 0) = true := by
      rw [beq_iff_eq, less_zero]
      exact fun j hj => hI j a hb hj
    rw [h1, Bool.true_and, Bool.true_and, Bool.true_and]
    cases e : belowAny zs s a
    · rw [(below_any h hs).1 e]; rfl
    · have : ¬ andI (zs[a]?.getD 0) (s : Int) = 0 := fun e2 => by rw [(below_any h hs).2 e2] at e; cases e
      simpa using this
theorem ideal_less {zs : List Int} (h : VoP zs) {s a : Nat} (hs : s < 2 ^ zs.length) (hI : Ideal zs s) (he : eG zs s a = true) : Ideal zs (s - 2 ^ a) := by
  have hn6 := h.1
  have hp64 := pow_le64 hn6
  unfold eG at he
  rw [Bool.and_eq_true, Bool.and_eq_true] at he
  obtain ⟨ha, _, hnb⟩ := he
  have han := bit_lt hs ha
  have hpa := Nat.two_pow_pos a
  have hbit : ∀ j, (s - 2 ^ a).testBit j = (s.testBit j && !decide (a = j)) := fun j => by
    rcases Nat.lt_or_ge j 6 with hj | hj
    · exact sub_bit_fin ⟨s, by omega⟩ ⟨a, by omega⟩ ⟨j, hj⟩ ha
    · rw [Nat.testBit_lt_two_pow (Nat.lt_of_lt_of_le (show s - 2 ^ a < 2 ^ 6 by omega) (Nat.pow_le_pow_right (by decide) hj)), Nat.testBit_lt_two_pow (Nat.lt_of_lt_of_le (show s < 2 ^ 6 by omega) (Nat.pow_le_pow_right (by decide) hj))]; rfl
  intro x y hy hb
  rw [hbit, Bool.and_eq_true] at hy ⊢
  refine ⟨hI x y hy.1 hb, ?_⟩
  by_cases e : a = x
  · subst e
    have h2 : belowAny zs s a = true := by
      unfold belowAny
      rw [List.any_eq_true]
      exact ⟨y, List.mem_range.2 (bit_lt hs hy.1), by rw [hy.1, hb]; rfl⟩
    rw [h2] at hnb; simp at hnb
  · simp [e]
theorem cF_du {zs : List Int} (h : VoP zs) : ∀ (k s : Nat), s ≤ k → s < 2 ^ zs.length → Ideal zs s → cF (du zs) s = cG zs s
  | 0, s, hk, _, _ => by
    obtain rfl : s = 0 := by omega
    rw [cF_zero, cG_zero]
  | k + 1, s, hk, hs, hI => by
    by_cases h0 : s = 0
    · subst h0; rw [cF_zero, cG_zero]
    · rw [cF_pos h0, cG_pos h0, du_len]
      refine sum_congr fun a ha => ?_
      rw [eF_du h hs hI]
      cases he : eG zs s a
      · rfl
      · have hlt := sub_lt (a := a) h0
        rw [if_pos rfl, if_pos rfl, cF_du h k (s - 2 ^ a) (by omega) (by omega) (ideal_less h hs hI he)]
/-- The order turned round has as many lines. -/
theorem count_du {zs : List Int} (h : VoP zs) : cF (du zs) (2 ^ zs.length - 1) = cF zs (2 ^ zs.length - 1) := by
  have hp := Nat.two_pow_pos zs.length
  rw [cF_du h _ _ (Nat.le_refl _) (by omega) (fun a b _ hb => by
    have := (du_small h hb).1
    rw [Nat.testBit_two_pow_sub_one]; simpa using this), count_both h]
end Go.Proofs.Ytghogabmkbadjaa
