/- Pairs of items of two orders: as both sides tell them. No program. -/
import Derived.Test.YtbjaomhmocblbaaGa
namespace Go.Proofs.Ytbjaomhmocblbaa
open Go.RowKit

/-- The pair k is above the pair i, or it. -/
def tmA (zs ys : List Int) (m i k : Nat) : Bool := bitB (orI (zs[i / m]?.getD 0) (powI ((i / m : Nat) : Int))) ((k / m : Nat) : Int) && bitB (orI (ys[i % m]?.getD 0) (powI ((i % m : Nat) : Int))) ((k % m : Nat) : Int)
def tmTo (zs ys : List Int) (m i : Nat) : Nat → Int
  | 0 => 0
  | k + 1 => if (i != k && tmA zs ys m i k) = true then orI (tmTo zs ys m i k) (powI (k : Int)) else tmTo zs ys m i k
theorem tmTo_bd (zs ys : List Int) (m i : Nat) : ∀ k : Nat, 0 ≤ tmTo zs ys m i k ∧ tmTo zs ys m i k < powI (k : Int)
  | 0 => ⟨Int.le_refl _, show (0 : Int) < powI ((0 : Nat) : Int) from powI_pos _⟩
  | k + 1 => by
    have ih := tmTo_bd zs ys m i k
    have h1 : powI (k : Int) < powI ((k + 1 : Nat) : Int) := powI_lt (Nat.lt_succ_self k)
    have hp := powI_pos (k : Int)
    unfold tmTo
    split
    · exact orI_bd ih.1 (by omega) (by omega) h1
    · omega
theorem tmTo_bit (zs ys : List Int) (m i j : Nat) : ∀ k : Nat, bitB (tmTo zs ys m i k) (j : Int) = (decide (j < k) && (i != j && tmA zs ys m i j))
  | 0 => by simp [tmTo, bitB_zero]
  | k + 1 => by
    have ih := tmTo_bit zs ys m i j k
    unfold tmTo
    by_cases hjk : j = k
    · subst hjk
      split
      · rename_i h; rw [bitB_or, bitB_pow, h]; simp
      · rename_i h
        rw [ih]
        have h' : (i != j && tmA zs ys m i j) = false := by simpa using h
        rw [h']; simp
    · have e1 : decide (j < k + 1) = decide (j < k) := by
        by_cases h : j < k
        · rw [decide_eq_true h, decide_eq_true (by omega)]
        · rw [decide_eq_false h, decide_eq_false (by omega)]
      rw [e1]
      split
      · rw [bitB_or, ih, bitB_pow, decide_eq_false (p := k = j) (fun e => hjk e.symm), Bool.or_false]
      · exact ih
def tmL (zs ys : List Int) : List Int := (List.range (zs.length * ys.length)).map fun i => tmTo zs ys ys.length i (zs.length * ys.length)
theorem tmL_len (zs ys : List Int) : (tmL zs ys).length = zs.length * ys.length := by simp [tmL]
theorem tmL_get (zs ys : List Int) {n m i : Nat} (hn : zs.length = n) (hm : ys.length = m) (hi : i < n * m) : (tmL zs ys)[i]?.getD 0 = tmTo zs ys m i (n * m) := by
  subst hn; subst hm
  unfold tmL
  rw [List.getElem?_map, List.getElem?_range hi]; rfl
theorem tmL_snoc (zs ys : List Int) {n m i : Nat} (hn : zs.length = n) (hm : ys.length = m) (hi : i < n * m) : (tmL zs ys).take (i + 1) = (tmL zs ys).take i ++ [tmTo zs ys m i (n * m)] := by
  rw [List.take_succ_eq_append_getElem (by rw [tmL_len, hn, hm]; exact hi)]
  have := tmL_get zs ys hn hm hi
  rw [List.getElem?_eq_getElem (by rw [tmL_len, hn, hm]; exact hi)] at this
  rw [← this]; rfl
def timesB (zs ys : List Int) : Bool := vo zs && (vo ys && decide (zs.length * ys.length ≤ 6))
def timesR (zs ys : List Int) : List Int := if timesB zs ys then tmL zs ys else []
theorem timesR_le (zs ys : List Int) : (timesR zs ys).length ≤ 1048576 := by
  unfold timesR
  split
  · rename_i h
    unfold timesB at h
    simp only [Bool.and_eq_true, decide_eq_true_eq] at h
    rw [tmL_len]; omega
  · simp
theorem timesB_parts {zs ys : List Int} (h : timesB zs ys = true) : VoP zs ∧ VoP ys ∧ zs.length * ys.length ≤ 6 := by
  unfold timesB at h
  simp only [Bool.and_eq_true, decide_eq_true_eq] at h
  exact ⟨by simpa [vo] using h.1, by simpa [vo] using h.2.1, h.2.2⟩
end Go.Proofs.Ytbjaomhmocblbaa
