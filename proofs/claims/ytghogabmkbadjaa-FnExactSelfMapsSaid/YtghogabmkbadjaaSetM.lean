/- Chains and sets apart: what is left of them, and when a chain is apart. No program. -/
import Derived.Test.YtghogabmkbadjaaGa
import Derived.Test.YtghogabmkbadjaaChIs
import Derived.Test.YtghogabmkbadjaaWide
set_option linter.unusedVariables false
set_option linter.unusedSimpArgs false
namespace Go.Proofs.Ytghogabmkbadjaa

theorem isChain_is {zs : List Int} {s : Int} (h : VoP zs) (h0 : 0 ≤ s) (h1 : s < powI zs.length) : isChainR zs s = chB zs s := by
  unfold isChainR inB
  rw [vo_true h, decide_eq_true (show (0 : Int) ≤ s ∧ s ≤ powI zs.length - 1 by omega)]
  rfl
theorem isApart_is {zs : List Int} {s : Int} (h : VoP zs) (h0 : 0 ≤ s) (h1 : s < powI zs.length) : isApartR zs s = apB zs s := by
  unfold isApartR inB
  rw [vo_true h, decide_eq_true (show (0 : Int) ≤ s ∧ s ≤ powI zs.length - 1 by omega)]
  rfl
theorem isChain_parts {zs : List Int} {s : Int} (h : isChainR zs s = true) : VoP zs ∧ (0 ≤ s ∧ s < powI zs.length) ∧ chB zs s = true := by
  unfold isChainR at h
  rw [Bool.and_eq_true, Bool.and_eq_true] at h
  obtain ⟨⟨h1, h2⟩, h3⟩ := h
  have h2' : (0 : Int) ≤ s ∧ s ≤ powI zs.length - 1 := by simpa [inB] using h2
  exact ⟨by simpa [vo] using h1, ⟨h2'.1, by omega⟩, h3⟩
theorem isApart_parts {zs : List Int} {s : Int} (h : isApartR zs s = true) : VoP zs ∧ (0 ≤ s ∧ s < powI zs.length) ∧ apB zs s = true := by
  unfold isApartR at h
  rw [Bool.and_eq_true, Bool.and_eq_true] at h
  obtain ⟨⟨h1, h2⟩, h3⟩ := h
  have h2' : (0 : Int) ≤ s ∧ s ≤ powI zs.length - 1 := by simpa [inB] using h2
  exact ⟨by simpa [vo] using h1, ⟨h2'.1, by omega⟩, h3⟩
theorem chB_sub {zs : List Int} {s t : Int} (h1 : s < 64) (h2 : t < 64) (hs : ∀ j : Nat, bitB t j = true → bitB s j = true) (h : chB zs s = true) : chB zs t = true := by
  unfold chB at *
  rw [decide_eq_true_eq] at *
  rw [ChP_iff h2]
  intro a b ha hb hab
  exact (ChP_iff h1).1 h a b (hs a ha) (hs b hb) hab
theorem apB_sub {zs : List Int} {s t : Int} (h1 : s < 64) (h2 : t < 64) (hs : ∀ j : Nat, bitB t j = true → bitB s j = true) (h : apB zs s = true) : apB zs t = true :=
  (apB_iff h2).2 fun a b ha hb => (apB_iff h1).1 h a b (hs a ha) (hs b hb)
/-- The set without its least item, as the program's 's & (s-1)'. -/
theorem less_one {n : Nat} {s : Int} (h0 : 0 ≤ s) (h1 : s < powI n) (hn : n ≤ 6) : ∃ t, bits .and .i64 s (s - 1) = t ∧ 0 ≤ t ∧ t < powI n ∧ ∀ j : Nat, bitB t j = true → bitB s j = true := by
  have hp := powI_le6 (n := (n : Int)) (by omega)
  by_cases hs : s = 0
  · subst hs
    exact ⟨0, by decide, by omega, by omega, fun _ e => e⟩
  · have hb := andI_bd s (s - 1)
    exact ⟨andI s (s - 1), bits_and (by omega) (by omega) (by omega) (by omega), hb.1, by omega, fun j e => by rw [bitB_and, Bool.and_eq_true] at e; exact e.1⟩
theorem du_isChain {zs : List Int} {s : Int} (h : VoP zs) (h0 : 0 ≤ s) (h1 : s < powI zs.length) : isChainR (du zs) s = chB zs s := by
  rw [isChain_is (du_vo h) h0 (by rw [du_len]; exact h1), du_chB h.sets]
theorem du_isApart {zs : List Int} {s : Int} (h : VoP zs) (h0 : 0 ≤ s) (h1 : s < powI zs.length) : isApartR (du zs) s = apB zs s := by
  have hp := powI_le6 (n := (zs.length : Int)) (by have := h.1; omega)
  rw [isApart_is (du_vo h) h0 (by rw [du_len]; exact h1), du_apB h.sets (by omega)]
theorem chain_apart {zs : List Int} {s : Int} (h : VoP zs) (h0 : 0 ≤ s) (h1 : s < powI zs.length) (hc : chB zs s = true) : apB zs s = decide (popI s ≤ 1) := by
  have hp := powI_le6 (n := (zs.length : Int)) (by have := h.1; omega)
  have h64 : s < 64 := by omega
  rw [popI_items h0 h64]
  have hs := itemsL_sorted s
  have hm : ∀ j : Nat, j ∈ itemsL s ↔ bitB s j = true := fun j => mem_itemsL h64
  have hc' : ChP zs s := of_decide_eq_true hc
  unfold ChP at hc'
  clear hc
  match hl : itemsL s with
  | [] =>
    rw [hl] at hm
    have : apB zs s = true := (apB_iff h64).2 fun a b ha hb => by have := (hm a).2 ha; simp at this
    rw [this]; rfl
  | [x] =>
    rw [hl] at hm
    have : apB zs s = true := (apB_iff h64).2 fun a b ha hb => by
      have e1 := (hm a).2 ha
      have e2 := (hm b).2 hb
      simp only [List.mem_singleton] at e1 e2
      subst e1; subst e2
      exact h.irrB (bitB_lt h1 ha)
    rw [this]; rfl
  | x :: y :: l =>
    rw [hl] at hc' hs hm
    have hr : relB zs x y = true := (List.pairwise_cons.1 hc').1 y (by simp)
    have hx := (hm x).1 (by simp)
    have hy := (hm y).1 (by simp)
    have hno : apB zs s = false := by
      cases e : apB zs s
      · rfl
      · have ha := (apB_iff h64).1 e
        unfold relB at hr
        rw [ha x y hx hy, ha y x hy hx] at hr
        cases hr
    rw [hno, decide_eq_false]
    simp only [List.length_cons]
    omega
theorem apart_le {zs : List Int} {s : Int} (h : VoP zs) (h0 : 0 ≤ s) (h1 : s < powI zs.length) (ha : apB zs s = true) : popI s ≤ wideR zs := by
  unfold wideR
  rw [vo_true h]
  obtain ⟨j, rfl⟩ := Int.eq_ofNat_of_zero_le h0
  have hN := setsN_pow zs
  exact grTo_ge ha (setsN zs) (by omega)
end Go.Proofs.Ytghogabmkbadjaa
