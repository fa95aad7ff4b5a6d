/- What LeastFixed's own law asks: it stays, and is below all that stay. No program. -/
import Derived.Test.YtmlihbcffndnbaaDoorGxc
import Derived.Test.YtmlihbcffndnbaaDoorMpO
set_option linter.unusedVariables false
set_option linter.unusedSimpArgs false
namespace Go.Proofs.YtmlihbcffndnbaaDoor
open Go.RowKit Go.Shelf
theorem meet_at {zs : List Int} (hv : VoP zs) {a b : Nat} (ha : a < zs.length) (_hb : b < zs.length) (h : amB zs a b = true) : joinI (du zs) a b = a := by
  have hs : ∀ j : Nat, bitB (upR (du zs) a b) j = true → amB zs j a = true := fun j hj => by
    unfold upR at hj
    rw [bitB_and, Bool.and_eq_true] at hj
    have := hj.1
    rwa [amB_up, am_du hv.sets] at this
  have hj : jnB (du zs) (upR (du zs) a b) a = true := by
    rw [jn_du hv.sets]
    refine ⟨?_, hs⟩
    unfold upR
    rw [bitB_and, Bool.and_eq_true, amB_up, amB_up, am_du hv.sets, am_du hv.sets]
    exact ⟨am_refl _ _, h⟩
  have hl : ∀ j : Nat, bitB (upR (du zs) a b) j = true → j < zs.length := fun j hj => by
    unfold upR at hj
    rw [bitB_and, Bool.and_eq_true] at hj
    have h1 := bitB_lt (atUp_bd (du_vo hv).sets (a := a) (by rw [du_len]; exact ha)).2 hj.1
    rwa [du_len] at h1
  unfold joinI
  rcases jnI_cases (zs := du zs) (s := upR (du zs) a b) with ⟨_, h2⟩ | ⟨c, e, _, hc⟩
  · rw [h2 a (by rw [du_len]; exact ha)] at hj; cases hj
  · rw [e, jn_one hv hl hc hj]
theorem lf_least {zs fs : List Int} (h : lfB zs fs = true) {R : Nat} : ∀ (m a : Nat), LfOk zs fs R a → (6 - hgt zs a).toNat ≤ m → (∀ i, i < zs.length → itN fs i = i → amB zs a i = true) →
    R < zs.length ∧ itN fs R = R ∧ ∀ i, i < zs.length → itN fs i = i → amB zs R i = true := by
  have h0 := h
  unfold lfB at h0
  rw [Bool.and_eq_true] at h0
  obtain ⟨hv, -⟩ := bot_is h0.1
  have hr := h0.2
  unfold risB at hr
  rw [Bool.and_eq_true] at hr
  obtain ⟨-, -, hl, he⟩ := mp_parts hr.1
  intro m
  induction m with
  | zero =>
    intro a hk hm
    have := lf_bd h hk
    omega
  | succ m ih =>
    intro a hk hm hall
    by_cases hf : itN fs a = a
    · obtain rfl := lf_done hk hf
      exact ⟨hk.1, hf, hall⟩
    · obtain ⟨h1, h2⟩ := lf_next h hk hf
      have hb := lf_bd h hk
      refine ih _ h1 (by omega) fun i hi hfi => ?_
      have h3 := hall i hi hfi
      rw [am_iff hk.1] at h3
      rcases h3 with h3 | h3
      · subst h3; exact absurd hfi hf
      · have h4 := (riB_iff hv.sets).1 hr.2 a i hk.1 hi h3.2 (by have := hk.1; omega) (by omega)
        rwa [hfi] at h4
/-- All that the law asks. -/
theorem lf_facts {zs fs : List Int} (h : lfB zs fs = true) : ∃ R : Nat, lfR zs fs = (R : Int) ∧ R < zs.length ∧ fixedR zs fs = fixTo fs zs.length ∧ zs.length ≤ 6 ∧ bitB (fixTo fs zs.length) R = true ∧
    ∀ i, i < zs.length → bitB (fixTo fs zs.length) i = true → meetR zs (R : Int) (i : Int) = R := by
  have h0 := h
  unfold lfB at h0
  rw [Bool.and_eq_true] at h0
  obtain ⟨hv, -, c, hc, hcl, hcb⟩ := bot_is h0.1
  obtain ⟨c2, hc2, hst⟩ := lf_start h
  have hcc : c2 = c := by omega
  subst hcc
  obtain ⟨h1, h2, h3⟩ := lf_least h _ _ hst (Nat.le_refl _) (fun i hi _ => hcb i hi)
  refine ⟨_, by unfold lfR; rw [h]; rfl, h1, by unfold fixedR; rw [h0.2]; rfl, hv.1, ?_, fun i hi hb => ?_⟩
  · rw [fixTo_bit, decide_eq_true h1, h2]; simp
  · rw [fixTo_bit, decide_eq_true hi] at hb
    rw [meetR_cast hv h1 hi, meet_at hv h1 hi (h3 i hi (by simpa using hb))]
end Go.Proofs.YtmlihbcffndnbaaDoor
