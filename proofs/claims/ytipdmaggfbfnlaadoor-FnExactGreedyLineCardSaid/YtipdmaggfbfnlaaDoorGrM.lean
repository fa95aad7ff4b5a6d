/- The line that goes up as long as it can, as plain mathematics. No program. -/
import Derived.Test.YtipdmaggfbfnlaaDoorTlM
import Derived.Test.YtipdmaggfbfnlaaDoorRkPos
import Derived.Test.YtipdmaggfbfnlaaDoorGb
set_option linter.unusedVariables false
set_option linter.unusedSimpArgs false
namespace Go.Proofs.YtipdmaggfbfnlaaDoor

/-- The next item: the first one that may be next and is above, or else the first one that may be next. -/
def grPick (zs : List Int) (s A : Int) : Nat := ((nxA zs s).find? fun a : Nat => bitB A (a : Int)).getD ((nxA zs s).headD 0)
/-- After k items: the line, what is lined up, what is left, and what is above the last one. -/
def grS (zs : List Int) : Nat → List Int × Int × Int × Int
  | 0 => ([], 0, powI (zs.length : Int) - 1, 0)
  | k + 1 => ((grS zs k).1 ++ [(grPick zs (grS zs k).2.1 (grS zs k).2.2.2 : Int)], orI (grS zs k).2.1 (powI (grPick zs (grS zs k).2.1 (grS zs k).2.2.2)), lessI (grS zs k).2.2.1 (powI (grPick zs (grS zs k).2.1 (grS zs k).2.2.2)), zs[grPick zs (grS zs k).2.1 (grS zs k).2.2.2]?.getD 0)
def greedyR (zs : List Int) : List Int := if vo zs then (grS zs zs.length).1 else []
theorem grS_len (zs : List Int) : ∀ k : Nat, (grS zs k).1.length = k
  | 0 => rfl
  | k + 1 => by simp [grS, grS_len zs k]
theorem greedyR_len (zs : List Int) : (greedyR zs).length ≤ 6 := by
  unfold greedyR
  cases h : vo zs
  · simp
  · have hvo : VoP zs := by simpa [vo] using h
    rw [if_pos rfl, grS_len]
    exact hvo.1
theorem nxA_some {zs : List Int} {n k : Nat} {s left : Int} (hvo : VoP zs) (hlen : zs.length = n) (h : Lft n s left (k + 1)) : nxA zs s ≠ [] := by
  have hn6 : n ≤ 6 := by have := hvo.1; omega
  have h0 : left ≠ 0 := fun e => by have := (lft_zero hn6 h).1 e; omega
  obtain ⟨L, hL⟩ := Int.eq_ofNat_of_zero_le h.l0
  have hl1 := h.l1
  have hN : powI (n : Int) = ((2 ^ n : Nat) : Int) := by simp [powI]
  have := next_some hvo (s := L) (by rw [hlen]; omega) (by omega)
  rw [← next_items hvo hlen hn6 h]
  unfold nextL at this
  rw [hlen] at this
  rw [hL]
  exact this
theorem grPick_mem {zs : List Int} {s A : Int} (h : nxA zs s ≠ []) : grPick zs s A ∈ nxA zs s := by
  unfold grPick
  cases e : (nxA zs s).find? fun a : Nat => bitB A (a : Int) with
  | some x => exact List.mem_of_find?_eq_some e
  | none =>
    cases e2 : nxA zs s with
    | nil => exact absurd e2 h
    | cons x l => exact List.mem_cons_self
/-- All that a walk needs in round k. -/
theorem gr_ok {zs : List Int} (hvo : VoP zs) : ∀ k : Nat, k ≤ zs.length → Lft zs.length (grS zs k).2.1 (grS zs k).2.2.1 (zs.length - k)
  | 0, _ => lft_start hvo.1
  | k + 1, hk => by
    have ih := gr_ok hvo k (by omega)
    rw [show zs.length - k = (zs.length - (k + 1)) + 1 by omega] at ih
    have hm := nxA_mem (grPick_mem (A := (grS zs k).2.2.2) (nxA_some hvo rfl ih))
    exact lft_step rfl hvo.1 ih hm.1 hm.2
theorem gr_pick {zs : List Int} (hvo : VoP zs) {k : Nat} (hk : k < zs.length) : grPick zs (grS zs k).2.1 (grS zs k).2.2.2 ∈ nxA zs (grS zs k).2.1 := by
  have ih := gr_ok hvo k (by omega)
  rw [show zs.length - k = (zs.length - (k + 1)) + 1 by omega] at ih
  exact grPick_mem (nxA_some hvo rfl ih)
theorem gr_above {zs : List Int} (hvo : VoP zs) (k : Nat) (hk : k ≤ zs.length) : 0 ≤ (grS zs k).2.2.2 ∧ (grS zs k).2.2.2 < 64 := by
  cases k with
  | zero => exact ⟨Int.le_refl _, by show (0 : Int) < 64; omega⟩
  | succ k =>
    have hm := nxA_mem (gr_pick hvo (show k < zs.length by omega))
    have := hvo.bd _ hm.1
    exact this
theorem gr_pop {zs : List Int} (hvo : VoP zs) : ∀ k : Nat, k ≤ zs.length → popI (grS zs k).2.1 = (k : Int)
  | 0, _ => (by decide +kernel : popI 0 = ((0 : Nat) : Int))
  | k + 1, hk => by
    have ih := gr_pop hvo k (by omega)
    have hL := gr_ok hvo k (by omega)
    have hm := nxA_mem (gr_pick hvo (show k < zs.length by omega))
    have h6 := hvo.1
    have hp := powI_le6 (n := (zs.length : Int)) (by omega)
    have h1 := hL.s1
    have hb : bitB (grS zs k).2.1 (grPick zs (grS zs k).2.1 (grS zs k).2.2.2 : Int) = false := by
      have := hm.2
      unfold stA2 at this
      rw [Bool.and_eq_true, Bool.and_eq_true] at this
      simpa using this.2.1
    have := popI_or hL.s0 (by omega) (show grPick zs (grS zs k).2.1 (grS zs k).2.2.2 < 6 by omega) hb
    show popI (orI (grS zs k).2.1 (powI (grPick zs (grS zs k).2.1 (grS zs k).2.2.2 : Int))) = _
    rw [this, ih]
    omega
theorem gr_last (zs : List Int) (k : Nat) : (grS zs (k + 1)).2.2.2 = zs[((grS zs (k + 1)).1[k]?.getD 0).toNat]?.getD 0 := by
  have hl := grS_len zs k
  have e : (grS zs (k + 1)).1[k]?.getD 0 = (grPick zs (grS zs k).2.1 (grS zs k).2.2.2 : Int) := by
    show ((grS zs k).1 ++ [_])[k]?.getD 0 = _
    rw [List.getElem?_append_right (by omega), hl, Nat.sub_self]
    rfl
  rw [e, Int.toNat_natCast]
  rfl
/-- The model's search. -/
theorem pick_first {zs : List Int} {s A : Int} {x : Nat} (hx : x < zs.length) (h1 : stA2 zs s x = true) (h2 : bitB A (x : Int) = true) (h : ∀ b : Nat, b < x → (stA2 zs s b && bitB A b) = false) : grPick zs s A = x := by
  unfold grPick nxA
  rw [List.find?_filter]
  have : (List.range zs.length).find? (fun a : Nat => decide (stA2 zs s (a : Int) = true ∧ bitB A (a : Int) = true)) = some x := by
    rw [List.find?_range_eq_some]
    refine ⟨by simp [h1, h2], List.mem_range.2 hx, fun j hj => ?_⟩
    have := h j hj
    cases e1 : stA2 zs s j <;> cases e2 : bitB A j <;> simp_all
  rw [this]
  rfl
theorem pick_second {zs : List Int} {s A : Int} {x : Nat} (hx : x < zs.length) (h0 : ∀ b : Nat, b < zs.length → (stA2 zs s b && bitB A b) = false) (h1 : stA2 zs s x = true) (h : ∀ b : Nat, b < x → stA2 zs s b = false) : grPick zs s A = x := by
  have e1 : (nxA zs s).find? (fun a : Nat => bitB A (a : Int)) = none := by
    rw [List.find?_eq_none]
    intro a ha
    have hm := nxA_mem ha
    have := h0 a hm.1
    rw [hm.2, Bool.true_and] at this
    simp [this]
  have e2 : (nxA zs s).head? = some x := by
    unfold nxA
    rw [List.head?_filter, List.find?_range_eq_some]
    exact ⟨h1, List.mem_range.2 hx, fun j hj => by simp [h j hj]⟩
  unfold grPick
  rw [e1, Option.getD_none, List.headD_eq_head?_getD, e2]
  rfl
/-- The program's choice. -/
theorem low_head_fin : ∀ s : Fin 64, s.val ≠ 0 → (itemsL (s.val : Int)).head? = some (low s.val) := by decide +kernel
theorem items_and (T A : Int) : itemsL (andI T A) = (itemsL T).filter fun a : Nat => bitB A (a : Int) := by
  unfold itemsL itemsTo
  rw [List.filter_filter]
  exact List.filter_congr fun a _ => by rw [bitB_and, Bool.and_comm]
theorem low_pick {zs : List Int} {s A T : Int} (hT : itemsL T = nxA zs s) (h0 : 0 ≤ T) (h1 : T < 64) (hne : nxA zs s ≠ []) :
    ∃ t : Nat, t ≠ 0 ∧ t < 64 ∧ (if andI T A = 0 then T else andI T A) = (t : Int) ∧ low t = grPick zs s A := by
  have hand : 0 ≤ andI T A ∧ andI T A ≤ T.toNat := by
    unfold andI
    exact ⟨by omega, by exact_mod_cast Nat.and_le_left⟩
  by_cases e : andI T A = 0
  · rw [if_pos e]
    obtain ⟨t, rfl⟩ := Int.eq_ofNat_of_zero_le h0
    have ht : t ≠ 0 := fun e2 => hne (by rw [← hT, e2]; decide +kernel)
    refine ⟨t, ht, by omega, rfl, ?_⟩
    have h2 := low_head_fin ⟨t, by omega⟩ ht
    simp only at h2
    rw [hT] at h2
    have h3 := items_and (t : Int) A
    rw [e, hT] at h3
    have h4 : (nxA zs s).find? (fun a : Nat => bitB A (a : Int)) = none := by
      rw [← List.head?_filter, ← h3]
      decide +kernel
    unfold grPick
    rw [h4, Option.getD_none, List.headD_eq_head?_getD, h2]
    rfl
  · rw [if_neg e]
    obtain ⟨t, ht⟩ := Int.eq_ofNat_of_zero_le hand.1
    have ht0 : t ≠ 0 := fun e2 => e (by rw [ht, e2]; rfl)
    have ht1 : t < 64 := by omega
    refine ⟨t, ht0, ht1, ht, ?_⟩
    have h2 := low_head_fin ⟨t, ht1⟩ ht0
    simp only at h2
    have h3 := items_and T A
    rw [ht, hT] at h3
    rw [h3, List.head?_filter] at h2
    unfold grPick
    rw [h2]
    rfl
/-- At the start the program takes all as above. -/
theorem pick_all {zs : List Int} (s : Int) (hs : nxA zs s ≠ []) : grPick zs s (powI (zs.length : Int) - 1) = grPick zs s 0 := by
  cases e : nxA zs s with
  | nil => exact absurd e hs
  | cons x l =>
    have hx := nxA_mem (zs := zs) (s := s) (a := x) (by rw [e]; exact List.mem_cons_self)
    have hb : bitB (powI (zs.length : Int) - 1) (x : Int) = true := by rw [all_bits]; simp [hx.1]
    unfold grPick
    rw [e]
    have h2 : (x :: l).find? (fun a : Nat => bitB 0 (a : Int)) = none := by
      rw [List.find?_eq_none]
      intro a _
      rw [bitB_zero]
      simp
    rw [h2, List.find?_cons, hb]
    rfl
end Go.Proofs.YtipdmaggfbfnlaaDoor
