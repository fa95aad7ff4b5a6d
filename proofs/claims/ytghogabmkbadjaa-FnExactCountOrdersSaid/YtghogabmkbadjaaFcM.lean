/- One item ahead of another one: the lines of the order with the one above the other, and the sets at which an item comes next. No program. -/
import Derived.Test.YtghogabmkbadjaaGc
import Derived.Test.YtghogabmkbadjaaGxd
import Derived.Test.YtghogabmkbadjaaGa
set_option linter.unusedVariables false
set_option linter.unusedSimpArgs false
namespace Go.Proofs.Ytghogabmkbadjaa

/-! The sets at which an item comes next. -/
theorem filter_with {n a x : Nat} (hn : n ≤ 6) (hxn : x < n) (hax : a ≠ x) : ((List.range (2 ^ n)).filter fun s : Nat => s.testBit x && !s.testBit a) = ((List.range (2 ^ n)).filter fun s : Nat => !s.testBit x && !s.testBit a).map fun s => s + 2 ^ x := by
  have h64 := pow_le64 hn
  have h1 := with_item ⟨n, by omega⟩ ⟨x, by omega⟩ hxn
  simp only at h1
  have e1 : ((List.range (2 ^ n)).filter fun s : Nat => s.testBit x && !s.testBit a) = ((List.range (2 ^ n)).filter fun s : Nat => s.testBit x).filter fun s : Nat => !s.testBit a := by
    rw [List.filter_filter]; congr 1; funext s; exact Bool.and_comm _ _
  have e2 : ((List.range (2 ^ n)).filter fun s : Nat => !s.testBit x && !s.testBit a) = ((List.range (2 ^ n)).filter fun s : Nat => !s.testBit x).filter fun s : Nat => !s.testBit a := by
    rw [List.filter_filter]; congr 1; funext s; exact Bool.and_comm _ _
  rw [e1, e2, h1, List.filter_map]
  congr 1
  refine List.filter_congr fun s hs => ?_
  rw [List.mem_filter, List.mem_range] at hs
  have hb : s.testBit x = false := by simpa using hs.2
  have hlt := add_lt_fin ⟨n, by omega⟩ ⟨s, by omega⟩ ⟨x, by omega⟩ hs.1 hxn hb
  simp only at hlt
  simp only [Function.comp]
  rcases Nat.lt_or_ge a 6 with ha | ha
  · have := add_bit_fin ⟨s, by omega⟩ ⟨x, by omega⟩ ⟨a, ha⟩ hb
    simp only at this
    rw [this, decide_eq_false (show ¬ x = a from fun e => hax e.symm), Bool.or_false]
  · have h6 : ∀ t : Nat, t < 64 → t.testBit a = false := fun t ht => Nat.testBit_lt_two_pow (Nat.lt_of_lt_of_le (show t < 2 ^ 6 by omega) (Nat.pow_le_pow_right (by decide) ha))
    rw [h6 _ (by omega), h6 _ (by omega)]
/-- Going on by x, out of the sets without a. -/
def goE (zs : List Int) (a x : Nat) : Nat := ((List.range (2 ^ zs.length)).map fun s => if nextE zs s x && !s.testBit a then cG zs s * cF zs (2 ^ zs.length - 1 - (s + 2 ^ x)) else 0).sum
theorem goE_back {zs : List Int} (h : VoP zs) {a x : Nat} (hx : x < zs.length) (hax : a ≠ x) :
    goE zs a x = ((List.range (2 ^ zs.length)).map fun s => if eG zs s x && !s.testBit a then cG zs (s - 2 ^ x) * cF zs (2 ^ zs.length - 1 - s) else 0).sum := by
  have hn6 := h.1
  unfold goE
  have e1 : ((List.range (2 ^ zs.length)).map fun s => if nextE zs s x && !s.testBit a then cG zs s * cF zs (2 ^ zs.length - 1 - (s + 2 ^ x)) else 0).sum =
      (((List.range (2 ^ zs.length)).filter fun s : Nat => !s.testBit x && !s.testBit a).map fun s => if nextE zs s x then cG zs s * cF zs (2 ^ zs.length - 1 - (s + 2 ^ x)) else 0).sum := by
    rw [← sum_if]
    refine sum_congr fun s _ => ?_
    cases hb : s.testBit x
    · cases s.testBit a <;> cases nextE zs s x <;> rfl
    · have : nextE zs s x = false := by unfold nextE; rw [hb]; rfl
      rw [this]; rfl
  have e2 : ((List.range (2 ^ zs.length)).map fun s => if eG zs s x && !s.testBit a then cG zs (s - 2 ^ x) * cF zs (2 ^ zs.length - 1 - s) else 0).sum =
      (((List.range (2 ^ zs.length)).filter fun s : Nat => s.testBit x && !s.testBit a).map fun s => if eG zs s x then cG zs (s - 2 ^ x) * cF zs (2 ^ zs.length - 1 - s) else 0).sum := by
    rw [← sum_if]
    refine sum_congr fun s _ => ?_
    cases hb : s.testBit x
    · have : eG zs s x = false := by unfold eG; rw [hb]; rfl
      rw [this]; rfl
    · cases s.testBit a <;> cases eG zs s x <;> rfl
  rw [e1, e2, filter_with hn6 hx hax, List.map_map]
  refine sum_congr fun s hs => ?_
  rw [List.mem_filter, Bool.and_eq_true] at hs
  have hN := List.mem_range.1 hs.1
  have hb : s.testBit x = false := by simpa using hs.2.1
  simp only [Function.comp, Nat.add_sub_cancel]
  exact edge_same h hN hx hb _
theorem sum_but {f : Nat → Nat} {a N : Nat} (ha : a < N) : ((List.range N).map f).sum = ((List.range N).map fun x => if x = a then 0 else f x).sum + f a := sum_pick f a N ha
/-- Each line comes by a once: the lines, by the sets that are ahead of a. -/
theorem by_item {zs : List Int} (h : VoP zs) {a : Nat} (ha : a < zs.length) :
    ((List.range (2 ^ zs.length)).map fun s => if nextE zs s a then cG zs s * cF zs (2 ^ zs.length - 1 - (s + 2 ^ a)) else 0).sum = cF zs (2 ^ zs.length - 1) := by
  have hpos := Nat.two_pow_pos zs.length
  -- A, both ways
  have A1 : ((List.range (2 ^ zs.length)).map fun s => if s.testBit a then 0 else cG zs s * cF zs (2 ^ zs.length - 1 - s)).sum = ((List.range zs.length).map fun x => goE zs a x).sum := by
    unfold goE
    rw [sum_swap (fun x s => if nextE zs s x && !s.testBit a then cG zs s * cF zs (2 ^ zs.length - 1 - (s + 2 ^ x)) else 0)]
    refine sum_congr fun s hs => ?_
    have hN := List.mem_range.1 hs
    cases hb : s.testBit a
    · have hne : s ≠ 2 ^ zs.length - 1 := fun e => by
        rw [e, Nat.testBit_two_pow_sub_one, decide_eq_true ha] at hb; cases hb
      rw [cF_next h hN hne]
      simp only [Bool.not_false, Bool.and_true]
      rw [if_neg (by decide), ← sum_mul]
      refine sum_congr fun x _ => ?_
      cases nextE zs s x <;> simp
    · simp only [Bool.not_true, Bool.and_false, if_true, Bool.false_eq_true, if_false]
      exact (sum_map_zero (List.range zs.length)).symm
  have A2 : ((List.range (2 ^ zs.length)).map fun s => if s.testBit a then 0 else cG zs s * cF zs (2 ^ zs.length - 1 - s)).sum = ((List.range zs.length).map fun x => if x = a then 0 else goE zs a x).sum + cF zs (2 ^ zs.length - 1) := by
    rw [sum_pick _ 0 (2 ^ zs.length) hpos, Nat.zero_testBit, if_neg (by decide), cG_zero, Nat.one_mul, Nat.sub_zero]
    congr 1
    have e : ((List.range zs.length).map fun x => if x = a then 0 else goE zs a x).sum = ((List.range zs.length).map fun x => ((List.range (2 ^ zs.length)).map fun s => if eG zs s x && !s.testBit a then cG zs (s - 2 ^ x) * cF zs (2 ^ zs.length - 1 - s) else 0).sum).sum := by
      refine sum_congr fun x hx => ?_
      have hxn := List.mem_range.1 hx
      by_cases hxa : x = a
      · rw [if_pos hxa]
        subst hxa
        refine ((sum_congr (g := fun _ => 0) fun s _ => ?_).trans (sum_map_zero _)).symm
        unfold eG
        cases s.testBit x <;> simp
      · rw [if_neg hxa, goE_back h hxn (fun e => hxa e.symm)]
    rw [e, sum_swap (fun x s => if eG zs s x && !s.testBit a then cG zs (s - 2 ^ x) * cF zs (2 ^ zs.length - 1 - s) else 0)]
    refine sum_congr fun s hs => ?_
    by_cases h0 : s = 0
    · rw [if_pos h0]
      refine ((sum_congr (g := fun _ => 0) fun x _ => ?_).trans (sum_map_zero _)).symm
      have : eG zs s x = false := by unfold eG; rw [h0]; simp
      rw [this]; rfl
    · rw [if_neg h0]
      cases hb : s.testBit a
      · rw [if_neg (by decide), cG_pos h0, Nat.mul_comm, ← sum_mul]
        refine sum_congr fun x _ => ?_
        cases eG zs s x <;> simp [Nat.mul_comm]
      · rw [if_pos rfl]
        refine ((sum_congr (g := fun _ => 0) fun x _ => ?_).trans (sum_map_zero _)).symm
        simp
  rw [A1, sum_but ha] at A2
  have e : goE zs a a = ((List.range (2 ^ zs.length)).map fun s => if nextE zs s a then cG zs s * cF zs (2 ^ zs.length - 1 - (s + 2 ^ a)) else 0).sum := by
    unfold goE
    refine sum_congr fun s _ => ?_
    unfold nextE
    cases s.testBit a <;> simp
  rw [← e]
  omega
end Go.Proofs.Ytghogabmkbadjaa
