/- Sets that part all items, as the laws see them. -/
import Derived.Test.YtipdmaggfbfnlaaGc
set_option linter.unusedVariables false
set_option linter.unusedSimpArgs false
namespace Go.Proofs.Ytipdmaggfbfnlaa
open Go.RowKit Go.Shelf

/-- All items of the first k sets. -/
def seenTo (xs : List Int) : Nat → Int
  | 0 => 0
  | k + 1 => orI (seenTo xs k) (xs[k]?.getD 0)
theorem seenTo_bit (xs : List Int) (j : Nat) : ∀ k : Nat, bitB (seenTo xs k) j = true ↔ ∃ i, i < k ∧ bitB (xs[i]?.getD 0) j = true
  | 0 => by simp [seenTo, bitB_zero]
  | k + 1 => by
    unfold seenTo
    rw [bitB_or, Bool.or_eq_true, seenTo_bit xs j k]
    constructor
    · rintro (⟨i, hi, e⟩ | e)
      · exact ⟨i, by omega, e⟩
      · exact ⟨k, by omega, e⟩
    · rintro ⟨i, hi, e⟩
      by_cases hik : i = k
      · subst hik; exact .inr e
      · exact .inl ⟨i, by omega, e⟩
theorem seenTo_bd {xs : List Int} {n : Nat} (h : ∀ i, i < xs.length → 0 ≤ xs[i]?.getD 0 ∧ xs[i]?.getD 0 < powI n) : ∀ k : Nat, k ≤ xs.length → 0 ≤ seenTo xs k ∧ seenTo xs k < powI n
  | 0, _ => ⟨Int.le_refl _, powI_pos _⟩
  | k + 1, hk => by
    have h1 := seenTo_bd h k (by omega)
    have h2 := h k (by omega)
    exact orI_bd h1.1 h1.2 h2.1 h2.2
/-- Each item is in just one of the sets. -/
structure PartsOk (xs : List Int) (n : Nat) : Prop where
  n6 : n ≤ 6
  bd : ∀ i, i < xs.length → 0 ≤ xs[i]?.getD 0 ∧ xs[i]?.getD 0 < powI n
  apart : ∀ i k j : Nat, i < k → k < xs.length → bitB (xs[i]?.getD 0) j = true → bitB (xs[k]?.getD 0) j = true → False
  all : ∀ j : Nat, j < n → ∃ i, i < xs.length ∧ bitB (xs[i]?.getD 0) j = true
theorem all_bits {n : Nat} : ∀ j : Nat, bitB (powI n - 1) j = decide (j < n) := fun j => by
  have e : (powI (n : Int) - 1).toNat = 2 ^ n - 1 := by
    have : powI (n : Int) = ((2 ^ n : Nat) : Int) := by simp [powI]
    omega
  simp [bitB, e, Nat.testBit_two_pow_sub_one]
theorem PartsOk.seen {xs : List Int} {n : Nat} (h : PartsOk xs n) : seenTo xs xs.length = powI n - 1 := by
  have hb := seenTo_bd h.bd xs.length (Nat.le_refl _)
  have hp := powI_pos (n : Int)
  refine bitB_ext hb.1 (by omega) fun j => ?_
  rw [all_bits]
  by_cases hj : j < n
  · have := (seenTo_bit xs j xs.length).2 (h.all j hj)
    rw [this]; simp [hj]
  · cases e : bitB (seenTo xs xs.length) j
    · simp [hj]
    · exact absurd (bitB_lt hb.2 e) hj
theorem PartsOk.no {xs : List Int} {n k : Nat} (h : PartsOk xs n) (hk : k < xs.length) : andI (seenTo xs k) (xs[k]?.getD 0) = 0 := by
  refine bitB_ext (andI_bd _ _).1 (Int.le_refl _) fun j => ?_
  rw [bitB_and, bitB_zero]
  cases e : bitB (seenTo xs k) j
  · rfl
  · cases e2 : bitB (xs[k]?.getD 0) j
    · rfl
    · obtain ⟨i, hi, hb⟩ := (seenTo_bit xs j k).1 e
      exact (h.apart i k j hi hk hb e2).elim

theorem lall_any (n : Nat) (w : World) (h1 : n ≤ 6) :
    Calls Try.prog 102 #[.int .i64 (n : Int)] w fun e w' => e = .returned (.int .i64 (powI n - 1)) ∧ w = w' := by
  have hp := powI_le6 (n := (n : Int)) (by omega)
  have hq := powI_pos (n : Int)
  go_enter Try.func102, Try.ntmps102
  go_wp2
  go_ret
  exact ⟨ret_int (by
    have : wrap64 (2 ^ ((n : Int)).toNat) = powI n := IntWalk.wrap64_in _ ⟨by unfold powI at hq; omega, by unfold powI at hp; omega⟩
    simp only [Int.toNat_natCast] at this
    rw [this]; exact IntWalk.wrap64_in _ ⟨by omega, by omega⟩), rfl⟩

set_option maxHeartbeats 1000000 in
theorem parts_any (A : Option Addr) (m c B n : Nat) (xs : List Int) (w : World) (h : Ints w B A m xs) (hp : PartsOk xs n) (hm : m ≤ 1048576) :
    Calls Try.prog 51 #[.slice A m c, .int .i64 (n : Int)] w fun e w' => e = .returned (.bool true) ∧ ∃ q, w' = w.drewN q := by
  have hlen := Lib.hid h.len
  have hn6 := hp.n6
  have hp64 := powI_le6 (n := (n : Int)) (by omega)
  go_enter Try.func51, Try.ntmps51
  go_wp2
  go_loopw [5, 6] (fun s i wr => ∃ k q : Nat, k ≤ m ∧ i = .int .i64 k ∧ s = .int .i64 (seenTo xs k) ∧ wr = w.drewN q) (fun _ i _ => m - (intOf i).toNat)
  case atStart => exact ⟨0, 0, by omega, rfl, rfl, rfl⟩
  case round =>
    obtain ⟨k, q, hk, rfl, rfl, rfl⟩ := hrel
    have hsb := seenTo_bd hp.bd k (by rw [hlen.out]; exact hk)
    by_cases hlt : k < m
    · obtain ⟨b, off, rfl, _, hc⟩ := h.at_ hlt
      have hck := hc k hlt
      have hxb := hp.bd k (by rw [hlen.out]; exact hlt)
      have hno := hp.no (k := k) (by rw [hlen.out]; exact hlt)
      have Hs := Lib.hid (show seenTo xs (k + 1) = orI (seenTo xs k) (xs[k]?.getD 0) from rfl)
      clear hc h
      generalize seenTo xs k = s at *
      generalize xs[k]?.getD 0 = x at *
      have e1 : bits .and .i64 s x = 0 := by rw [bits_and (by omega) (by omega) (by omega) (by omega)]; exact hno
      have e2 := Lib.hid (bits_or (a := s) (b := x) (by omega) (by omega) (by omega) (by omega))
      clear hno
      go_wp2
      go_roundw
      case rel => exact ⟨k + 1, _, by omega, by go_num, by rw [Hs.out, ← e2.out], rfl⟩
      case measure => simp [intOf]; omega
    · obtain rfl : k = m := by omega
      have Hall := Lib.hid hp.seen
      rw [hlen.out] at Hall
      go_wp2_with (go_at_call 102; refine (lall_any _ _ hn6).mono ?_; rintro e w' ⟨rfl, rfl⟩)
      go_ret
      exact ⟨ret_bool (by rw [Hall.out]; simp), _, rfl⟩
end Go.Proofs.Ytipdmaggfbfnlaa
