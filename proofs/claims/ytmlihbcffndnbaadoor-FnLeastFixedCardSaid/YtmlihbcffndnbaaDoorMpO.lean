/- Rising lists turned round, and the list of all items. No program. -/
import Derived.Test.YtmlihbcffndnbaaDoorGxc
set_option linter.unusedVariables false
set_option linter.unusedSimpArgs false
namespace Go.Proofs.YtmlihbcffndnbaaDoor
open Go.RowKit Go.Shelf
theorem am_du {zs : List Int} (hv : Sets zs) (a b : Nat) : amB (du zs) a b = amB zs b a := by
  unfold amB
  rw [du_bit hv]
  by_cases e : a = b
  · subst e; rfl
  · rw [show (a == b) = false from beq_eq_false_iff_ne.2 e, show (b == a) = false from beq_eq_false_iff_ne.2 (fun x => e x.symm)]
theorem vo_du {zs : List Int} (h : vo zs = true) : vo (du zs) = true := by
  have hv : VoP zs := by simpa [vo] using h
  have := du_vo hv
  simpa [vo] using this
theorem ends_du {ys fs : List Int} (h : endsB ys.length fs = true) : endsB (du ys).length fs = true := by rw [du_len]; exact h
theorem mp_du {zs ys fs : List Int} (h : mpB zs ys fs = true) : mpB (du zs) (du ys) fs = true := by
  have hv : vo zs = true ∧ vo ys = true := by
    unfold mpB at h
    rw [Bool.and_eq_true, Bool.and_eq_true] at h
    exact ⟨h.1, h.2.1⟩
  obtain ⟨_, _, hl, he⟩ := mp_parts h
  exact mp_yes (vo_du hv.1) (vo_du hv.2) (by rw [du_len]; exact hl) (ends_du he)
theorem ris_du {zs ys fs : List Int} (h : risB zs ys fs = true) : risB (du zs) (du ys) fs = true := by
  unfold risB at h ⊢
  rw [Bool.and_eq_true] at h ⊢
  obtain ⟨hv, hvy, hl, he⟩ := mp_parts h.1
  refine ⟨mp_du h.1, (riB_iff (du_vo hv).sets).2 fun x y hx hy hb h1 h2 => ?_⟩
  rw [du_len] at hx hy
  rw [du_bit hv.sets] at hb
  rw [am_du hvy.sets]
  exact (riB_iff hv.sets).1 h.2 y x hy hx hb h2 h1
def uptoL (n : Nat) : List Int := (List.range n).map fun (i : Nat) => (i : Int)
theorem uptoL_len (n : Nat) : (uptoL n).length = n := by simp [uptoL]
theorem uptoL_succ (n : Nat) : uptoL (n + 1) = uptoL n ++ [(n : Int)] := by simp [uptoL, List.range_succ]
theorem uptoL_it {n k : Nat} (h : k < n) : itN (uptoL n) k = k := by unfold itN; simp [uptoL, h]
theorem ris_id {zs : List Int} (h : vo zs = true) : risB zs zs (uptoL zs.length) = true := by
  have hv : VoP zs := by simpa [vo] using h
  unfold risB
  rw [Bool.and_eq_true]
  refine ⟨mp_yes h h (uptoL_len _) ?_, (riB_iff hv.sets).2 fun x y hx hy hb _ _ => ?_⟩
  · unfold endsB uptoL
    rw [List.all_eq_true]
    intro e he
    obtain ⟨i, hi, rfl⟩ := List.mem_map.1 he
    have := List.mem_range.1 hi
    unfold inB
    simp; omega
  · rw [uptoL_it hx, uptoL_it hy]
    unfold amB
    rw [hb]
    simp
theorem ris_vo {zs ys fs : List Int} (h : risB zs ys fs = true) : vo zs = true ∧ vo ys = true ∧ fs.length = zs.length := by
  unfold risB at h
  rw [Bool.and_eq_true] at h
  have h1 := h.1
  unfold mpB at h1
  rw [Bool.and_eq_true, Bool.and_eq_true, Bool.and_eq_true] at h1
  exact ⟨h1.1, h1.2.1, by simpa using h1.2.2.1⟩
/-- A pairing rises both ways, and each list is told by the other one. -/
theorem pair_swap {zs ys fs gs : List Int} (hv : Sets zs) (hvy : Sets ys) (h : pairB zs ys fs gs = true) : pairB (du ys) (du zs) gs fs = true := by
  unfold pairB at h ⊢
  rw [Bool.and_eq_true, Bool.and_eq_true] at h ⊢
  refine ⟨mp_du h.2.1, mp_du h.1, prB_iff.2 fun y x hy hx => ?_⟩
  rw [am_du hv, am_du hvy]
  exact (prB_iff.1 h.2.2 x y hx hy).symm
theorem pair_gI {zs ys fs gs : List Int} (h : pairB zs ys fs gs = true) {y : Nat} (hy : y < ys.length) : gI zs ys fs y = (itN gs y : Int) := by
  unfold pairB at h
  rw [Bool.and_eq_true, Bool.and_eq_true] at h
  obtain ⟨hv, hvy, hl, he⟩ := mp_parts h.1
  obtain ⟨-, -, hlg, heg⟩ := mp_parts h.2.1
  have hg := (ends_it heg (k := y) (by omega)).2
  have hpr := prB_iff.1 h.2.2
  have hb : jnB (du zs) (enTo ys fs y zs.length) (itN gs y) = true := by
    rw [jn_du hv.sets]
    refine ⟨?_, fun j hj => ?_⟩
    · rw [enTo_bit, hpr (itN gs y) y (by omega) (by omega), am_refl]
      simp; omega
    · rw [enTo_bit, Bool.and_eq_true] at hj
      rw [← hpr j y (by have := hj.1; simp at this; omega) (by omega)]
      exact hj.2
  unfold gI
  rcases jnI_cases (zs := du zs) (s := enTo ys fs y zs.length) with ⟨e, h2⟩ | ⟨c, e, hc, hb2⟩
  · rw [h2 _ (by rw [du_len]; exact hg)] at hb; cases hb
  · rw [e, jn_one hv (fun j hj => bitB_lt (enTo_bd ys fs y zs.length).2 hj) hb2 hb]
theorem pair_po {zs ys fs gs : List Int} (h : pairB zs ys fs gs = true) : poB zs ys fs = true ∧ gsTo zs ys fs ys.length = gs ∧ risB zs ys fs = true := by
  have hg := fun y hy => pair_gI h (y := y) hy
  have h0 := h
  unfold pairB at h
  rw [Bool.and_eq_true, Bool.and_eq_true] at h
  obtain ⟨hv, hvy, hl, he⟩ := mp_parts h.1
  obtain ⟨-, -, hlg, heg⟩ := mp_parts h.2.1
  have hga : gAll zs ys fs = true := gAll_iff.2 fun y hy => by rw [hg y hy]; omega
  have hgs : gsTo zs ys fs ys.length = gs := by
    refine List.ext_getElem (by rw [gsTo_len, hlg]) fun i h1 h2 => ?_
    have e1 := gsTo_get zs ys fs (k := ys.length) (y := i) (by rw [gsTo_len] at h1; exact h1)
    rw [List.getElem?_eq_getElem h1] at e1
    have e2 := (ends_it heg h2).1
    rw [List.getElem?_eq_getElem h2] at e2
    simp only [Option.getD_some] at e1 e2
    rw [e1, e2, hg i (by omega)]
  have hri : riB zs ys fs = true := by rw [← po_pr h.1 hga, hgs]; exact h.2.2
  exact ⟨by unfold poB; rw [h.1, hri, hga]; rfl, hgs, by unfold risB; rw [h.1, hri]; rfl⟩
theorem pair_ris2 {zs ys fs gs : List Int} (h : pairB zs ys fs gs = true) : risB ys zs gs = true := by
  have h0 := h
  unfold pairB at h
  rw [Bool.and_eq_true, Bool.and_eq_true] at h
  obtain ⟨hv, hvy, hl, he⟩ := mp_parts h.1
  obtain ⟨-, -, hlg, heg⟩ := mp_parts h.2.1
  have := (pair_po (pair_swap hv.sets hvy.sets h0)).2.2
  have h2 := ris_du this
  unfold risB at this ⊢
  rw [Bool.and_eq_true] at this ⊢
  refine ⟨h.2.1, (riB_iff hvy.sets).2 fun x y hx hy hb h1 h2 => ?_⟩
  have h3 := (riB_iff (du_vo hvy).sets).1 this.2 y x (by rw [du_len]; exact hy) (by rw [du_len]; exact hx) (by rw [du_bit hvy.sets]; exact hb) h2 h1
  rw [am_du hv.sets] at h3
  exact h3
theorem po_pair {zs ys fs : List Int} (h : poB zs ys fs = true) : pairB zs ys fs (gsTo zs ys fs ys.length) = true := by
  unfold poB at h
  rw [Bool.and_eq_true, Bool.and_eq_true] at h
  have hvb := h.1
  unfold mpB at hvb
  rw [Bool.and_eq_true, Bool.and_eq_true] at hvb
  unfold pairB
  rw [h.1, po_pr h.1 h.2.2, h.2.1, mp_yes hvb.2.1 hvb.1 (gsTo_len _ _ _ _) (gs_ends (fun y hy => gAll_iff.1 h.2.2 y hy))]
  rfl
end Go.Proofs.YtmlihbcffndnbaaDoor
