/- All lines of an order as one list, item by item: it holds just the lines, each one once. No program. -/
import Derived.Test.YtipdmaggfbfnlaaLineM
set_option linter.unusedVariables false
set_option linter.unusedSimpArgs false
namespace Go.Proofs.Ytipdmaggfbfnlaa

def stA2 (zs : List Int) (s x : Int) : Bool := inB x 0 ((zs.length : Int) - 1) && (!bitB s x && (lessI ((du zs)[x.toNat]?.getD 0) s == 0))
/-- The lines that go on with k items where s are lined up as so. -/
def alG (zs : List Int) : Nat → List Int → Int → List (List Int)
  | 0, so, _ => [so]
  | k + 1, so, s => (List.range zs.length).flatMap fun a : Nat => if stA2 zs s a then alG zs k (so ++ [(a : Int)]) (orI s (powI a)) else []
def okT (zs : List Int) : Int → List Int → Bool
  | _, [] => true
  | s, x :: t => stA2 zs s x && okT zs (orI s (powI x)) t
theorem alG_mem (zs : List Int) : ∀ (k : Nat) (so : List Int) (s : Int) (l : List Int), l ∈ alG zs k so s ↔ ∃ t, t.length = k ∧ l = so ++ t ∧ okT zs s t = true
  | 0, so, s, l => by
    rw [alG, List.mem_singleton]
    constructor
    · rintro rfl; exact ⟨[], rfl, by simp, rfl⟩
    · rintro ⟨t, h1, rfl, _⟩
      rw [List.eq_nil_of_length_eq_zero h1, List.append_nil]
  | k + 1, so, s, l => by
    rw [alG, List.mem_flatMap]
    constructor
    · rintro ⟨a, ha, h⟩
      cases h1 : stA2 zs s (a : Int)
      · rw [h1] at h; simp at h
      · rw [h1, if_pos rfl, alG_mem zs k] at h
        obtain ⟨t, h2, rfl, h3⟩ := h
        exact ⟨(a : Int) :: t, by simp [h2], by simp, by rw [okT, h1, h3]; rfl⟩
    · rintro ⟨t, h1, rfl, h2⟩
      cases t with
      | nil => simp at h1
      | cons x t =>
        rw [okT, Bool.and_eq_true] at h2
        have hx : (0 : Int) ≤ x ∧ x ≤ (zs.length : Int) - 1 := by
          have := h2.1
          unfold stA2 at this
          rw [Bool.and_eq_true] at this
          simpa [inB] using this.1
        obtain ⟨a, rfl⟩ := Int.eq_ofNat_of_zero_le hx.1
        refine ⟨a, List.mem_range.2 (by omega), ?_⟩
        rw [show stA2 zs s (a : Int) = true from h2.1, if_pos rfl, alG_mem zs k]
        exact ⟨t, by simpa using h1, by simp, h2.2⟩
theorem alG_nodup (zs : List Int) : ∀ (k : Nat) (so : List Int) (s : Int), (alG zs k so s).Nodup
  | 0, so, s => by rw [alG]; simp
  | k + 1, so, s => by
    rw [alG]
    unfold List.flatMap
    refine List.pairwise_flatten.2 ⟨fun l hl => ?_, ?_⟩
    · obtain ⟨a, _, rfl⟩ := List.mem_map.1 hl
      split
      · exact alG_nodup zs k _ _
      · exact List.Pairwise.nil
    · rw [List.pairwise_map]
      refine List.Pairwise.imp_of_mem (R := (· < ·)) ?_ (List.pairwise_lt_range)
      intro a b _ _ hab x hx y hy e
      subst e
      split at hx
      · split at hy
        · obtain ⟨t, _, e1, _⟩ := (alG_mem zs k _ _ _).1 hx
          obtain ⟨t', _, e2, _⟩ := (alG_mem zs k _ _ _).1 hy
          rw [e1, List.append_assoc, List.append_assoc] at e2
          have := List.append_cancel_left e2
          simp at this
          omega
        · cases hy
      · cases hx
theorem ok_steps (zs : List Int) : ∀ (t so : List Int), (∀ i, i < t.length → stepOk zs (so ++ t) (so.length + i) = true) ↔ okT zs (doneTo (so ++ t) so.length) t = true
  | [], so => by simp [okT]
  | x :: t, so => by
    have h0 : (so ++ x :: t)[so.length]?.getD 0 = x := by simp
    have hs : stepOk zs (so ++ x :: t) so.length = stA2 zs (doneTo (so ++ x :: t) so.length) x := by unfold stepOk stA2; rw [h0]
    have ih := ok_steps zs t (so ++ [x])
    rw [List.append_assoc, List.singleton_append, List.length_append, List.length_singleton] at ih
    have hd : doneTo (so ++ x :: t) (so.length + 1) = orI (doneTo (so ++ x :: t) so.length) (powI x) := by
      show orI _ (powI ((so ++ x :: t)[so.length]?.getD 0)) = _
      rw [h0]
    rw [hd] at ih
    rw [okT, Bool.and_eq_true, ← ih, ← hs]
    constructor
    · intro h
      exact ⟨h 0 (by simp), fun i hi => by have := h (i + 1) (by simp; omega); rwa [show so.length + 1 + i = so.length + (i + 1) by omega]⟩
    · rintro ⟨h1, h2⟩ i hi
      cases i with
      | zero => exact h1
      | succ i =>
        have := h2 i (by simpa using hi)
        rwa [show so.length + 1 + i = so.length + (i + 1) by omega] at this
/-- All lines. -/
def alL (zs : List Int) : List (List Int) := alG zs zs.length [] 0
theorem alL_mem (zs l : List Int) : l ∈ alL zs ↔ lineB zs l = true := by
  unfold alL
  rw [alG_mem]
  have h := ok_steps zs l []
  rw [List.nil_append] at h
  have hd : doneTo l ([] : List Int).length = 0 := rfl
  rw [hd] at h
  constructor
  · rintro ⟨t, h1, e, h2⟩
    rw [List.nil_append] at e
    subst e
    exact lineB_yes h1 rfl fun k hk => by
      have := h.2 h2 k (by omega)
      simpa using this
  · intro hl
    have hl' := hl
    unfold lineB at hl'
    rw [Bool.and_eq_true, decide_eq_true_eq, List.all_eq_true] at hl'
    exact ⟨l, hl'.1, by simp, h.1 fun i hi => by
      have := hl'.2 i (List.mem_range.2 hi)
      simpa using this⟩
theorem alL_nodup (zs : List Int) : (alL zs).Nodup := alG_nodup zs _ _ _
end Go.Proofs.Ytipdmaggfbfnlaa
