/- Pairs of items of two orders: as the program gathers them. No program. -/
import Derived.Test.YtbjaomhmocblbaaTmM
import Derived.Test.YtbjaomhmocblbaaGa
import Derived.Test.YtbjaomhmocblbaaGb
namespace Go.Proofs.Ytbjaomhmocblbaa
open Go.RowKit

/-- What has been gathered for a pair when the items of a list are over. -/
def accP (m : Nat) (yq : Int) (pre : List Nat) : Int := pre.foldl (fun acc h => orI acc (yq * powI ((h * m : Nat) : Int))) 0
theorem accP_snoc (m : Nat) (yq : Int) (pre : List Nat) (h : Nat) : accP m yq (pre ++ [h]) = orI (accP m yq pre) (yq * powI ((h * m : Nat) : Int)) := by simp [accP]
theorem mulpow_bit {y : Int} (h0 : 0 ≤ y) (d k : Nat) : bitB (y * powI (d : Int)) (k : Int) = (decide (d ≤ k) && bitB y ((k - d : Nat) : Int)) := by
  obtain ⟨u, rfl⟩ := Int.eq_ofNat_of_zero_le h0
  have e : ((u : Int) * powI (d : Int)).toNat = u * 2 ^ d := by
    have : (u : Int) * powI (d : Int) = ((u * 2 ^ d : Nat) : Int) := by simp [powI]
    rw [this, Int.toNat_natCast]
  unfold bitB
  rw [e, Int.toNat_natCast, Int.toNat_natCast, Int.toNat_natCast, Nat.mul_comm, Nat.testBit_two_pow_mul]
theorem mulpow_bd {n m h : Nat} {yq : Int} (h0 : 0 ≤ yq) (h1 : yq < powI (m : Int)) (hh : h < n) : 0 ≤ yq * powI ((h * m : Nat) : Int) ∧ yq * powI ((h * m : Nat) : Int) < powI ((n * m : Nat) : Int) := by
  have hp := powI_pos ((h * m : Nat) : Int)
  refine ⟨Int.mul_nonneg h0 (by omega), ?_⟩
  have h2 : (yq + 1) * powI ((h * m : Nat) : Int) ≤ powI (m : Int) * powI ((h * m : Nat) : Int) := Int.mul_le_mul_of_nonneg_right (by omega) (by omega)
  have e : powI (m : Int) * powI ((h * m : Nat) : Int) = powI ((m + h * m : Nat) : Int) := by unfold powI; rw [Int.toNat_natCast, Int.toNat_natCast, Int.toNat_natCast, Int.pow_add]
  have h3 : powI ((m + h * m : Nat) : Int) ≤ powI ((n * m : Nat) : Int) := powI_le (by
    have : m + h * m = (h + 1) * m := by rw [Nat.add_mul, Nat.one_mul, Nat.add_comm]
    rw [this]
    exact_mod_cast Nat.mul_le_mul_right m hh)
  rw [e, Int.add_mul, Int.one_mul] at h2
  omega
theorem accP_bd {n m : Nat} {yq : Int} (h0 : 0 ≤ yq) (h1 : yq < powI (m : Int)) : ∀ pre : List Nat, (∀ h ∈ pre, h < n) → 0 ≤ accP m yq pre ∧ accP m yq pre < powI ((n * m : Nat) : Int) := fun pre => by
  have key : ∀ l : List Nat, (∀ h ∈ l.reverse, h < n) → 0 ≤ accP m yq l.reverse ∧ accP m yq l.reverse < powI ((n * m : Nat) : Int) := fun l => by
    induction l with
    | nil => intro _; exact ⟨Int.le_refl _, powI_pos _⟩
    | cons x l ih =>
      intro hl
      rw [List.reverse_cons] at hl ⊢
      have ih := ih fun h hh => hl h (by simp at hh ⊢; exact .inl hh)
      have hb := mulpow_bd (n := n) (h := x) h0 h1 (hl x (by simp))
      rw [accP_snoc]
      exact orI_bd ih.1 ih.2 hb.1 hb.2
  intro h
  have := key pre.reverse (by rw [List.reverse_reverse]; exact h)
  rwa [List.reverse_reverse] at this
theorem accP_bit {m : Nat} {yq : Int} (h0 : 0 ≤ yq) (k : Nat) : ∀ pre : List Nat, bitB (accP m yq pre) (k : Int) = pre.any fun h => decide (h * m ≤ k) && bitB yq ((k - h * m : Nat) : Int) := fun pre => by
  have key : ∀ l : List Nat, bitB (accP m yq l.reverse) (k : Int) = l.reverse.any fun h => decide (h * m ≤ k) && bitB yq ((k - h * m : Nat) : Int) := fun l => by
    induction l with
    | nil => simp [accP, bitB_zero]
    | cons x l ih => rw [List.reverse_cons, accP_snoc, bitB_or, ih, mulpow_bit h0, List.any_append]; simp
  have := key pre.reverse
  rwa [List.reverse_reverse] at this
theorem acc_done {zs ys : List Int} {n m a b : Nat} (hn : zs.length = n) (hm : ys.length = m) (hnm : n * m ≤ 6) (hz : 0 ≤ orI (zs[a]?.getD 0) (powI (a : Int)) ∧ orI (zs[a]?.getD 0) (powI (a : Int)) < powI (n : Int)) (hz64 : orI (zs[a]?.getD 0) (powI (a : Int)) < 64)
    (hy : 0 ≤ orI (ys[b]?.getD 0) (powI (b : Int)) ∧ orI (ys[b]?.getD 0) (powI (b : Int)) < powI (m : Int)) (hbm : b < m) :
    lessI (accP m (orI (ys[b]?.getD 0) (powI (b : Int))) (itemsL (orI (zs[a]?.getD 0) (powI (a : Int))))) (powI ((a * m + b : Nat) : Int)) = tmTo zs ys m (a * m + b) (n * m) := by
  have hm0 : 0 < m := by omega
  have hd : (a * m + b) / m = a := by rw [Nat.mul_comm, Nat.mul_add_div hm0, Nat.div_eq_of_lt hbm, Nat.add_zero]
  have hr : (a * m + b) % m = b := by rw [Nat.mul_comm, Nat.mul_add_mod, Nat.mod_eq_of_lt hbm]
  have htb := tmTo_bd zs ys m (a * m + b) (n * m)
  refine bitB_ext (lessI_bd _ _).1 htb.1 fun k => ?_
  rw [bitB_less, bitB_pow, accP_bit hy.1, tmTo_bit]
  unfold tmA
  rw [hd, hr]
  have key : ((itemsL (orI (zs[a]?.getD 0) (powI (a : Int)))).any fun h => decide (h * m ≤ k) && bitB (orI (ys[b]?.getD 0) (powI (b : Int))) ((k - h * m : Nat) : Int)) =
      (bitB (orI (zs[a]?.getD 0) (powI (a : Int))) ((k / m : Nat) : Int) && bitB (orI (ys[b]?.getD 0) (powI (b : Int))) ((k % m : Nat) : Int)) := by
    rw [Bool.eq_iff_iff, List.any_eq_true, Bool.and_eq_true]
    constructor
    · rintro ⟨h, hh, h2⟩
      rw [Bool.and_eq_true, decide_eq_true_eq] at h2
      obtain ⟨r, rfl⟩ : ∃ r, k = h * m + r := ⟨k - h * m, by omega⟩
      have hb := bitB_lt hy.2 h2.2
      rw [Nat.add_sub_cancel_left] at hb h2
      have e1 : (h * m + r) / m = h := by rw [Nat.mul_comm, Nat.mul_add_div hm0, Nat.div_eq_of_lt hb, Nat.add_zero]
      have e2 : (h * m + r) % m = r := by rw [Nat.mul_comm, Nat.mul_add_mod, Nat.mod_eq_of_lt hb]
      rw [e1, e2]
      exact ⟨(mem_itemsL hz64).1 hh, h2.2⟩
    · rintro ⟨h1, h2⟩
      refine ⟨k / m, (mem_itemsL hz64).2 h1, ?_⟩
      rw [Bool.and_eq_true, decide_eq_true_eq]
      have e : k / m * m + k % m = k := by rw [Nat.mul_comm]; exact Nat.div_add_mod k m
      refine ⟨by omega, ?_⟩
      have : k - k / m * m = k % m := by omega
      rw [this]; exact h2
  rw [key]
  cases h1 : bitB (orI (zs[a]?.getD 0) (powI (a : Int))) ((k / m : Nat) : Int)
  · simp
  · have hkn : k / m < n := bitB_lt hz.2 h1
    have hk : k < n * m := (Nat.div_lt_iff_lt_mul hm0).1 hkn
    rw [decide_eq_true hk]
    cases bitB (orI (ys[b]?.getD 0) (powI (b : Int))) ((k % m : Nat) : Int) <;> simp
    by_cases e : a * m + b = k <;> simp [e]
end Go.Proofs.Ytbjaomhmocblbaa
