/- Ranks of lines, as plain mathematics: counted item by item, from what is done and from what is left. No program. -/
import Derived.Test.YtghogabmkbadjaaInd
import Derived.Test.YtghogabmkbadjaaGa
set_option linter.unusedVariables false
set_option linter.unusedSimpArgs false
namespace Go.Proofs.Ytghogabmkbadjaa

theorem or_fin : ∀ s : Fin 64, ∀ a : Fin 6, s.val.testBit a.val = false → orI (s.val : Int) (powI (a.val : Int)) = ((s.val + 2 ^ a.val : Nat) : Int) := by decide +kernel
theorem or_is {s a : Nat} (hs : s < 64) (ha : a < 6) (hb : s.testBit a = false) : orI (s : Int) (powI (a : Int)) = ((s + 2 ^ a : Nat) : Int) := or_fin ⟨s, hs⟩ ⟨a, ha⟩ hb
theorem com_bit {n s j : Nat} (hn : n ≤ 6) (hs : s < 2 ^ n) (hj : j < 6) : (2 ^ n - 1 - s).testBit j = (decide (j < n) && !s.testBit j) :=
  com_bit_fin ⟨n, by omega⟩ ⟨s, Nat.lt_of_lt_of_le hs (pow_le64 hn)⟩ hs ⟨j, hj⟩
theorem add_lt {n s a : Nat} (hn : n ≤ 6) (hs : s < 2 ^ n) (ha : a < n) (hb : s.testBit a = false) : s + 2 ^ a < 2 ^ n :=
  add_lt_fin ⟨n, by omega⟩ ⟨s, Nat.lt_of_lt_of_le hs (pow_le64 hn)⟩ ⟨a, by omega⟩ hs ha hb
theorem nextE_eF {zs : List Int} (h : VoP zs) {D a : Nat} (hD : D < 2 ^ zs.length) (ha : a < zs.length) : nextE zs D a = eF zs (2 ^ zs.length - 1 - D) a := by
  have hn6 := h.1
  rw [Bool.eq_iff_iff, eF_iff h]
  unfold nextE
  rw [Bool.and_eq_true, beq_iff_eq, less_zero, com_bit hn6 hD (by omega)]
  simp only [ha, decide_true, Bool.true_and]
  constructor
  · rintro ⟨h1, h2⟩
    refine ⟨h1, fun b hb => ?_⟩
    have hbn : b < zs.length := bit_lt (n := zs.length) (by omega) hb
    rw [com_bit hn6 hD (by omega), Bool.and_eq_true] at hb
    cases e : bitB (zs[b]?.getD 0) a
    · rfl
    · have := h2 b (by rw [du_bit h.sets]; exact e)
      rw [this] at hb; simp at hb
  · rintro ⟨h1, h2⟩
    refine ⟨h1, fun j hj => ?_⟩
    rw [du_bit h.sets] at hj
    have hjn := bit_none' hj
    cases e : D.testBit j
    · have := h2 j (by rw [com_bit hn6 hD (by omega), e]; simp [hjn])
      rw [hj] at this; cases this
    · rfl
/-- The lines that go on with a lesser item than 'item', with D done. -/
def rkIn (zs : List Int) (D item : Nat) : Nat := ((List.range item).map fun a => if nextE zs D a then cF zs (2 ^ zs.length - 1 - (D + 2 ^ a)) else 0).sum
theorem rkIn_succ (zs : List Int) (D a : Nat) : rkIn zs D (a + 1) = rkIn zs D a + (if nextE zs D a then cF zs (2 ^ zs.length - 1 - (D + 2 ^ a)) else 0) := by
  unfold rkIn
  rw [List.range_succ, List.map_append, List.sum_append]
  simp
theorem rkIn_le {zs : List Int} (h : VoP zs) (D : Nat) : ∀ a : Nat, rkIn zs D a ≤ a * 46656
  | 0 => by simp [rkIn]
  | a + 1 => by
    have ih := rkIn_le h D a
    have hp := Nat.two_pow_pos zs.length
    have h1 := cF_le h (s := 2 ^ zs.length - 1 - (D + 2 ^ a)) (Nat.lt_of_le_of_lt (Nat.sub_le _ _) (by omega))
    have h2 : (if nextE zs D a then cF zs (2 ^ zs.length - 1 - (D + 2 ^ a)) else 0) ≤ 46656 := by
      cases nextE zs D a
      · exact Nat.zero_le _
      · exact h1
    rw [rkIn_succ, Nat.add_mul]
    exact Nat.add_le_add ih (by rw [Nat.one_mul]; exact h2)
/-- As the program adds: over the items that may come next. -/
def accR (zs : List Int) (S item : Nat) (pre : List Nat) : Nat := ((pre.filter fun a => decide (a < item)).map fun a => cF zs (S - 2 ^ a)).sum
theorem accR_yes {zs : List Int} {S item x : Nat} {pre : List Nat} (h : x < item) : accR zs S item (pre ++ [x]) = accR zs S item pre + cF zs (S - 2 ^ x) := by
  unfold accR; rw [List.filter_append]; simp [h]
theorem accR_no {zs : List Int} {S item x : Nat} {pre : List Nat} (h : ¬ x < item) : accR zs S item (pre ++ [x]) = accR zs S item pre := by
  unfold accR; rw [List.filter_append]; simp [h]
theorem accR_all {zs : List Int} (h : VoP zs) {D item : Nat} (hD : D < 2 ^ zs.length) (hi : item ≤ zs.length) : accR zs (2 ^ zs.length - 1 - D) item (nextL zs (2 ^ zs.length - 1 - D)) = rkIn zs D item := by
  have e : (nextL zs (2 ^ zs.length - 1 - D)).filter (fun a => decide (a < item)) = (List.range item).filter (nextE zs D) := by
    rw [nextL_is h]
    refine inc_ext _ _ (((range_inc _).filter _).filter _) ((range_inc _).filter _) fun a => ?_
    rw [List.mem_filter, List.mem_filter, List.mem_filter, List.mem_range, List.mem_range, decide_eq_true_eq]
    constructor
    · rintro ⟨⟨h1, h2⟩, h3⟩
      exact ⟨h3, by rw [nextE_eF h hD h1]; exact h2⟩
    · rintro ⟨h1, h2⟩
      exact ⟨⟨by omega, by rw [← nextE_eF h hD (by omega)]; exact h2⟩, h1⟩
  unfold accR rkIn
  rw [e, sum_if]
  refine congrArg List.sum (List.map_congr_left fun a ha => ?_)
  rw [Nat.sub_sub]
theorem accR_le {zs : List Int} (h : VoP zs) {S item : Nat} (hS : S < 2 ^ zs.length) : ∀ pre : List Nat, accR zs S item pre ≤ pre.length * 46656 := fun pre => by
  have h1 : ∀ x ∈ pre.filter (fun a => decide (a < item)), cF zs (S - 2 ^ x) ≤ 46656 := fun x _ => cF_le h (Nat.lt_of_le_of_lt (Nat.sub_le _ _) hS)
  have h2 := sum_le _ h1
  have h3 := List.length_filter_le (fun a => decide (a < item)) pre
  unfold accR
  exact Nat.le_trans h2 (Nat.mul_le_mul_right _ h3)
/-- The count under way. -/
def midR (zs : List Int) (S item R : Nat) (pre : List Nat) : Nat := R + accR zs S item pre
/-- What is done, and the item at a place, as numbers that are none less than 0. -/
def dN (ls : List Int) (k : Nat) : Nat := (doneTo ls k).toNat
def itN (ls : List Int) (k : Nat) : Nat := (ls[k]?.getD 0).toNat
def rkUp (zs ls : List Int) : Nat → Nat
  | 0 => 0
  | k + 1 => rkUp zs ls k + rkIn zs (dN ls k) (itN ls k)
theorem line_steps {zs ls : List Int} (h : lineB zs ls = true) : ls.length = zs.length ∧ ∀ k, k < zs.length → stepOk zs ls k = true := by
  unfold lineB at h
  rw [Bool.and_eq_true, decide_eq_true_eq, List.all_eq_true] at h
  exact ⟨h.1, fun k hk => h.2 k (by rw [List.mem_range]; omega)⟩
section
variable {zs ls : List Int}
theorem it_is {k : Nat} (h : stepOk zs ls k = true) : ls[k]?.getD 0 = (itN ls k : Int) ∧ itN ls k < zs.length := by
  have := stepOk_in h
  unfold itN; omega
theorem d_is {k : Nat} (h : ∀ i, i < k → stepOk zs ls i = true) : doneTo ls k = (dN ls k : Int) ∧ dN ls k < 2 ^ zs.length := by
  have := doneTo_bd k h
  have e : powI (zs.length : Int) = ((2 ^ zs.length : Nat) : Int) := by simp [powI]
  unfold dN; omega
theorem d_new {k : Nat} (hk : ∀ i, i < k → stepOk zs ls i = true) (h : stepOk zs ls k = true) : (dN ls k).testBit (itN ls k) = false := by
  have := stepOk_new h
  rw [(it_is h).1, (d_is hk).1, bit_cast] at this
  exact this
theorem d_succ (hv : VoP zs) {k : Nat} (hk : ∀ i, i < k → stepOk zs ls i = true) (h : stepOk zs ls k = true) : dN ls (k + 1) = dN ls k + 2 ^ itN ls k := by
  have hn6 := hv.1
  have h1 := d_is hk
  have h2 := it_is h
  have h3 : doneTo ls (k + 1) = orI (doneTo ls k) (powI (ls[k]?.getD 0)) := rfl
  rw [h1.1, h2.1, or_is (Nat.lt_of_lt_of_le h1.2 (pow_le64 hn6)) (by omega) (d_new hk h)] at h3
  unfold dN at h3 ⊢
  rw [h3]; rfl
theorem left_com (hv : VoP zs) : ∀ k : Nat, (∀ i, i < k → stepOk zs ls i = true) → leftTo zs.length ls k = ((2 ^ zs.length - 1 - dN ls k : Nat) : Int) := fun k hk => by
  have hn6 := hv.1
  have h1 := d_is hk
  have hp := Nat.two_pow_pos zs.length
  have hb := leftTo_bd (n := zs.length) (ls := ls) k
  refine bitB_ext hb.1 (by omega) fun j => ?_
  rw [leftTo_bit j k hk, bit_cast, h1.1, bit_cast]
  rcases Nat.lt_or_ge j 6 with hj | hj
  · rw [com_bit hn6 h1.2 hj]
  · have h64 := pow_le64 hn6
    have e : (2 ^ zs.length - 1 - dN ls k).testBit j = false := Nat.testBit_lt_two_pow (Nat.lt_of_lt_of_le (show 2 ^ zs.length - 1 - dN ls k < 2 ^ 6 by omega) (Nat.pow_le_pow_right (by decide) hj))
    rw [e, decide_eq_false (by omega)]; rfl
theorem rkUp_le (hv : VoP zs) : ∀ k : Nat, (∀ i, i < k → stepOk zs ls i = true) → rkUp zs ls k ≤ k * 279936
  | 0, _ => by simp [rkUp]
  | k + 1, h => by
    have ih := rkUp_le hv k fun i hi => h i (by omega)
    have h1 := rkIn_le hv (dN ls k) (itN ls k)
    have h2 := (it_is (h k (by omega))).2
    have h3 := hv.1
    unfold rkUp
    omega
end
def rankR (zs ls : List Int) : Int := if isLineR zs ls then (rkUp zs ls ls.length : Int) else -1
end Go.Proofs.Ytghogabmkbadjaa
