/- Lines, as plain mathematics: what is lined up, what is left, and when the next item may come. No program. -/
import Derived.Test.YtipdmaggfbfnlaaGc
import Derived.Test.YtipdmaggfbfnlaaParts
import Derived.Test.YtipdmaggfbfnlaaTops
set_option linter.unusedVariables false
set_option linter.unusedSimpArgs false
namespace Go.Proofs.Ytipdmaggfbfnlaa

/-- The first k items of the list. -/
def doneTo (ls : List Int) : Nat → Int
  | 0 => 0
  | k + 1 => orI (doneTo ls k) (powI (ls[k]?.getD 0))
/-- All items but the first k of the list. -/
def leftTo (n : Nat) (ls : List Int) : Nat → Int
  | 0 => powI n - 1
  | k + 1 => lessI (leftTo n ls k) (powI (ls[k]?.getD 0))
/-- The item k of the list is one, was not yet there, and all below it were. -/
def stepOk (zs ls : List Int) (k : Nat) : Bool :=
  inB (ls[k]?.getD 0) 0 ((zs.length : Int) - 1) && (!bitB (doneTo ls k) (ls[k]?.getD 0) && (lessI ((du zs)[(ls[k]?.getD 0).toNat]?.getD 0) (doneTo ls k) == 0))
def lineB (zs ls : List Int) : Bool := decide (ls.length = zs.length) && (List.range ls.length).all (stepOk zs ls)
def isLineR (zs ls : List Int) : Bool := vo zs && lineB zs ls

theorem lineB_yes {zs ls : List Int} {m : Nat} (hm : ls.length = m) (hl : m = zs.length) (h : ∀ k, k < m → stepOk zs ls k = true) : lineB zs ls = true := by
  unfold lineB
  rw [Bool.and_eq_true, List.all_eq_true]
  exact ⟨by simp; omega, fun k hk => h k (by rw [← hm]; exact List.mem_range.1 hk)⟩
theorem lineB_len {zs ls : List Int} {m : Nat} (hm : ls.length = m) (hl : m ≠ zs.length) : lineB zs ls = false := by
  unfold lineB
  rw [decide_eq_false (by omega)]
  rfl
theorem lineB_no {zs ls : List Int} {m k : Nat} (hm : ls.length = m) (hk : k < m) (h : stepOk zs ls k = false) : lineB zs ls = false := by
  cases e : lineB zs ls
  · rfl
  · unfold lineB at e
    rw [Bool.and_eq_true, List.all_eq_true] at e
    have := e.2 k (List.mem_range.2 (by omega))
    rw [h] at this
    cases this
theorem stepOk_in {zs ls : List Int} {k : Nat} (h : stepOk zs ls k = true) : 0 ≤ ls[k]?.getD 0 ∧ ls[k]?.getD 0 < zs.length := by
  unfold stepOk at h
  rw [Bool.and_eq_true] at h
  have : (0 : Int) ≤ ls[k]?.getD 0 ∧ ls[k]?.getD 0 ≤ (zs.length : Int) - 1 := by simpa [inB] using h.1
  omega
theorem stepOk_new {zs ls : List Int} {k : Nat} (h : stepOk zs ls k = true) : bitB (doneTo ls k) (ls[k]?.getD 0) = false := by
  unfold stepOk at h
  rw [Bool.and_eq_true, Bool.and_eq_true] at h
  simpa using h.2.1
theorem doneTo_bd {zs ls : List Int} : ∀ k : Nat, (∀ i, i < k → stepOk zs ls i = true) → 0 ≤ doneTo ls k ∧ doneTo ls k < powI zs.length
  | 0, _ => ⟨Int.le_refl _, powI_pos _⟩
  | k + 1, h => by
    have h1 := doneTo_bd k fun i hi => h i (by omega)
    have h2 := stepOk_in (h k (by omega))
    obtain ⟨a, ha⟩ := Int.eq_ofNat_of_zero_le h2.1
    have h3 : powI (a : Int) < powI (zs.length : Int) := powI_lt (by omega)
    have h4 := powI_pos (a : Int)
    unfold doneTo
    rw [ha]
    exact orI_bd h1.1 h1.2 (by omega) h3
theorem leftTo_bd {n : Nat} {ls : List Int} : ∀ k : Nat, 0 ≤ leftTo n ls k ∧ leftTo n ls k < powI n
  | 0 => by have := powI_pos (n : Int); unfold leftTo; omega
  | k + 1 => by
    have h1 := leftTo_bd (n := n) (ls := ls) k
    have h2 := lessI_bd (leftTo n ls k) (powI (ls[k]?.getD 0))
    unfold leftTo
    omega
theorem leftTo_bit {zs ls : List Int} (j : Nat) : ∀ k : Nat, (∀ i, i < k → stepOk zs ls i = true) → bitB (leftTo zs.length ls k) j = (decide (j < zs.length) && !bitB (doneTo ls k) j)
  | 0, _ => by unfold leftTo doneTo; rw [all_bits, bitB_zero]; simp
  | k + 1, h => by
    have ih := leftTo_bit (zs := zs) (ls := ls) j k fun i hi => h i (by omega)
    have h2 := stepOk_in (h k (by omega))
    obtain ⟨a, ha⟩ := Int.eq_ofNat_of_zero_le h2.1
    unfold leftTo doneTo
    rw [ha, bitB_less, bitB_or, bitB_pow, ih]
    cases decide (j < zs.length) <;> cases bitB (doneTo ls k) j <;> cases decide (a = j) <;> rfl
/-- As the program asks it: the item is a top, turned round, of what is left. -/
theorem step_tops {zs ls : List Int} (h : VoP zs) {k : Nat} (hk : ∀ i, i < k → stepOk zs ls i = true) {a : Nat} (ha : ls[k]?.getD 0 = (a : Int)) (hn : a < zs.length) :
    bitB (topsTo (du zs) (leftTo zs.length ls k) zs.length) a = stepOk zs ls k := by
  have hds := (du_sets h.sets).2 a (by rw [du_len]; exact hn)
  rw [du_len] at hds
  have hl := leftTo_bit (zs := zs) (ls := ls) a k hk
  have hin : inB (a : Int) 0 ((zs.length : Int) - 1) = true := by simp [inB]; omega
  have key : bitB (topsTo (du zs) (leftTo zs.length ls k) zs.length) a = true ↔ stepOk zs ls k = true := by
    rw [topsTo_bit]
    unfold stepOk
    rw [ha, hin, hl, Bool.true_and, Int.toNat_natCast]
    simp only [Bool.and_eq_true]
    have e2 : andI ((du zs)[a]?.getD 0) (leftTo zs.length ls k) = 0 ↔ (lessI ((du zs)[a]?.getD 0) (doneTo ls k) == 0) = true := by
      rw [beq_iff_eq, andI_zero]
      constructor
      · intro e
        refine bitB_ext (lessI_bd _ _).1 (Int.le_refl _) fun j => ?_
        rw [bitB_less, bitB_zero]
        cases e1 : bitB ((du zs)[a]?.getD 0) j
        · rfl
        · cases e3 : bitB (doneTo ls k) j
          · have hj := bitB_lt hds.2 e1
            have := e j (by rw [leftTo_bit (zs := zs) (ls := ls) j k hk, e3]; simp [hj])
            rw [e1] at this; cases this
          · rfl
      · intro e j hj
        rw [leftTo_bit (zs := zs) (ls := ls) j k hk, Bool.and_eq_true] at hj
        cases e1 : bitB ((du zs)[a]?.getD 0) j
        · rfl
        · have := bitB_less ((du zs)[a]?.getD 0) (doneTo ls k) j
          rw [e, bitB_zero, e1] at this
          simp at this hj
          rw [this] at hj
          simp at hj
    constructor
    · rintro ⟨_, h1, h2⟩
      exact ⟨h1.2, e2.1 h2⟩
    · rintro ⟨h1, h2⟩
      exact ⟨hn, ⟨by simpa using hn, h1⟩, e2.2 h2⟩
  cases e1 : bitB (topsTo (du zs) (leftTo zs.length ls k) zs.length) a <;> cases e2 : stepOk zs ls k <;> simp_all
end Go.Proofs.Ytipdmaggfbfnlaa
