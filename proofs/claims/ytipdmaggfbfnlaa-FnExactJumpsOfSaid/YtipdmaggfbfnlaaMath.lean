/- Plain words and facts on numbers as sets, and on orders as lists of such numbers. No program is imported. -/
import Derived.WalkKit
import Derived.Laws.BitsAllLaws
namespace Go.Proofs.Ytipdmaggfbfnlaa
open Go.RowKit

/-- Whether the set s has j. -/
def bitB (s j : Int) : Bool := s.toNat.testBit j.toNat
/-- Whether n is in a range. -/
def inB (n lo hi : Int) : Bool := decide (lo ≤ n ∧ n ≤ hi)
def bitI (s j : Int) : Int := if bitB s j then 1 else 0
def powI (n : Int) : Int := 2 ^ n.toNat
def orI (a b : Int) : Int := ((a.toNat ||| b.toNat : Nat) : Int)
def andI (a b : Int) : Int := ((a.toNat &&& b.toNat : Nat) : Int)
/-- What a has and b has not. -/
def lessI (a b : Int) : Int := ((a.toNat &&& (a.toNat ^^^ b.toNat) : Nat) : Int)

theorem ofInt_i64n (a : Nat) (ha : a < 9223372036854775808) : (BitVec.ofInt 64 (a : Int)).toNat = a := by
  rw [BitVec.ofInt_natCast, BitVec.toNat_ofNat]; exact Nat.mod_eq_of_lt (by omega)

theorem bits_and {a b : Int} (h0 : 0 ≤ a) (h1 : a < 4611686018427387904) (g0 : 0 ≤ b) (g1 : b < 4611686018427387904) : bits .and .i64 a b = andI a b := by
  obtain ⟨a, rfl⟩ := Int.eq_ofNat_of_zero_le h0
  obtain ⟨b, rfl⟩ := Int.eq_ofNat_of_zero_le g0
  have hx : a &&& b < 2 ^ 62 := Nat.and_lt_two_pow _ (by omega)
  show IntKind.i64.wrap ((BitVec.ofInt 64 (a : Int) &&& BitVec.ofInt 64 (b : Int)).toNat : Int) = _
  rw [BitVec.toNat_and, ofInt_i64n a (by omega), ofInt_i64n b (by omega), IntKind.wrap_i64]
  simp only [andI, Int.toNat_natCast]
  omega
theorem bits_or {a b : Int} (h0 : 0 ≤ a) (h1 : a < 4611686018427387904) (g0 : 0 ≤ b) (g1 : b < 4611686018427387904) : bits .or .i64 a b = orI a b := by
  obtain ⟨a, rfl⟩ := Int.eq_ofNat_of_zero_le h0
  obtain ⟨b, rfl⟩ := Int.eq_ofNat_of_zero_le g0
  have hx : a ||| b < 2 ^ 62 := Nat.or_lt_two_pow (by omega) (by omega)
  show IntKind.i64.wrap ((BitVec.ofInt 64 (a : Int) ||| BitVec.ofInt 64 (b : Int)).toNat : Int) = _
  rw [BitVec.toNat_or, ofInt_i64n a (by omega), ofInt_i64n b (by omega), IntKind.wrap_i64]
  simp only [orI, Int.toNat_natCast]
  omega
theorem bits_less {a b : Int} (h0 : 0 ≤ a) (h1 : a < 4611686018427387904) (g0 : 0 ≤ b) (g1 : b < 4611686018427387904) : bits .andNot .i64 a b = lessI a b := by
  obtain ⟨a, rfl⟩ := Int.eq_ofNat_of_zero_le h0
  obtain ⟨b, rfl⟩ := Int.eq_ofNat_of_zero_le g0
  have hx : a &&& (a ^^^ b) < 2 ^ 62 := Nat.lt_of_le_of_lt Nat.and_le_left (by omega)
  show IntKind.i64.wrap ((BitVec.ofInt 64 (a : Int) &&& ~~~ BitVec.ofInt 64 (b : Int)).toNat : Int) = _
  have e : (BitVec.ofInt 64 (a : Int) &&& ~~~ BitVec.ofInt 64 (b : Int)).toNat = a &&& (a ^^^ b) := by
    apply Nat.eq_of_testBit_eq
    intro i
    rw [← BitVec.getLsbD, BitVec.getLsbD_and, BitVec.getLsbD_not]
    simp only [BitVec.getLsbD, ofInt_i64n a (by omega), ofInt_i64n b (by omega), Nat.testBit_and, Nat.testBit_xor]
    by_cases hi : i < 64
    · simp [hi]; cases a.testBit i <;> cases b.testBit i <;> rfl
    · have : a.testBit i = false := Nat.testBit_lt_two_pow (Nat.lt_of_lt_of_le (by omega : a < 2 ^ 62) (Nat.pow_le_pow_right (by decide) (by omega)))
      simp [this]
  rw [e, IntKind.wrap_i64]
  simp only [lessI, Int.toNat_natCast]
  omega

theorem shr_and_one {s j : Int} (h0 : 0 ≤ s) (h1 : s < 4611686018427387904) : bits .and .i64 (s / 2 ^ j.toNat) 1 = bitI s j := by
  obtain ⟨a, rfl⟩ := Int.eq_ofNat_of_zero_le h0
  have hd : ((a : Int) / 2 ^ j.toNat) = ((a / 2 ^ j.toNat : Nat) : Int) := by simp
  have hle : a / 2 ^ j.toNat ≤ a := Nat.div_le_self _ _
  rw [hd]
  simp only [bitI, bitB, Int.toNat_natCast, Nat.testBit, Nat.shiftRight_eq_div_pow]
  generalize a / 2 ^ j.toNat = q at *
  rw [bits_and (by omega) (by omega) (by decide) (by decide)]
  simp only [andI, Int.toNat_natCast, Nat.and_comm 1]
  have e : q &&& (1 : Int).toNat = q % 2 := Nat.and_one_is_mod q
  have e' : q &&& 1 = q % 2 := Nat.and_one_is_mod q
  rw [e, e']
  rcases Nat.mod_two_eq_zero_or_one q with h | h <;> simp [h]

theorem lessI_bd (a b : Int) : 0 ≤ lessI a b ∧ lessI a b ≤ a.toNat := by
  unfold lessI; exact ⟨by omega, by exact_mod_cast (Nat.and_le_left)⟩
theorem bitI_01 (s j : Int) : 0 ≤ bitI s j ∧ bitI s j ≤ 1 := by unfold bitI; split <;> omega
theorem bitI_one (s j : Int) : (bitI s j == 1) = bitB s j := by unfold bitI; cases bitB s j <;> rfl
theorem bitI_true {s j : Int} (h : bitB s j = true) : bitI s j = 1 := by simp [bitI, h]
theorem bitI_false {s j : Int} (h : bitB s j = false) : bitI s j = 0 := by simp [bitI, h]
theorem bitB_lt {s : Int} {n j : Nat} (h1 : s < powI n) (h : bitB s j = true) : j < n := by
  rcases Nat.lt_or_ge j n with hj | hj
  · exact hj
  · have h2 : s.toNat < 2 ^ n := by
      have h3 : powI (n : Int) = ((2 ^ n : Nat) : Int) := by simp [powI]
      rw [h3] at h1
      have h4 : 0 < 2 ^ n := Nat.two_pow_pos n
      generalize 2 ^ n = q at *
      omega
    have h3 : s.toNat.testBit j = false := Nat.testBit_lt_two_pow (Nat.lt_of_lt_of_le h2 (Nat.pow_le_pow_right (by decide) hj))
    simp [bitB, h3] at h
theorem powI_pos (n : Int) : 0 < powI n := by unfold powI; exact Int.pow_pos (by decide)
theorem powI_le {n m : Int} (h : n ≤ m) : powI n ≤ powI m := by
  have h1 : (2 : Nat) ^ n.toNat ≤ 2 ^ m.toNat := Nat.pow_le_pow_right (by decide) (by omega)
  have h2 : ((2 ^ n.toNat : Nat) : Int) ≤ ((2 ^ m.toNat : Nat) : Int) := Int.ofNat_le.2 h1
  simpa [powI] using h2
theorem powI_le6 {n : Int} (h : n ≤ 6) : powI n ≤ 64 := powI_le h
theorem powI_succ {n : Int} (h : 0 ≤ n) : powI (n + 1) = 2 * powI n := by
  unfold powI; rw [show (n + 1).toNat = n.toNat + 1 from by omega, Int.pow_succ, Int.mul_comm]
theorem powI_zero : powI 0 = 1 := rfl
theorem orI_bd {a b n : Int} (_h0 : 0 ≤ a) (h1 : a < powI n) (_g0 : 0 ≤ b) (g1 : b < powI n) : 0 ≤ orI a b ∧ orI a b < powI n := by
  have e : powI n = ((2 ^ n.toNat : Nat) : Int) := by simp [powI]
  rw [e] at h1 g1 ⊢
  have hp : 0 < 2 ^ n.toNat := Nat.two_pow_pos _
  have h : a.toNat ||| b.toNat < 2 ^ n.toNat := by
    refine Nat.or_lt_two_pow ?_ ?_
    all_goals
      generalize 2 ^ n.toNat = q at *
      omega
  unfold orI
  generalize 2 ^ n.toNat = q at *
  omega
theorem andI_bd (a b : Int) : 0 ≤ andI a b ∧ andI a b ≤ a.toNat := by
  unfold andI; exact ⟨by omega, by exact_mod_cast Nat.and_le_left⟩
theorem bitB_or (a b j : Int) : bitB (orI a b) j = (bitB a j || bitB b j) := by simp [bitB, orI]
theorem bitB_and (a b j : Int) : bitB (andI a b) j = (bitB a j && bitB b j) := by simp [bitB, andI]
theorem bitB_less (a b j : Int) : bitB (lessI a b) j = (bitB a j && !bitB b j) := by
  simp only [bitB, lessI, Int.toNat_natCast, Nat.testBit_and, Nat.testBit_xor]
  cases a.toNat.testBit j.toNat <;> cases b.toNat.testBit j.toNat <;> rfl
theorem bitB_pow (k j : Nat) : bitB (powI k) j = decide (k = j) := by
  have e : (powI (k : Int)).toNat = 2 ^ k := by
    have : powI (k : Int) = ((2 ^ k : Nat) : Int) := by simp [powI]
    rw [this, Int.toNat_natCast]
  simp [bitB, e, Nat.testBit_two_pow]
theorem bitB_zero (j : Int) : bitB 0 j = false := by simp [bitB]
theorem bitB_ext {a b : Int} (h0 : 0 ≤ a) (g0 : 0 ≤ b) (h : ∀ j : Nat, bitB a j = bitB b j) : a = b := by
  have e : a.toNat = b.toNat := Nat.eq_of_testBit_eq fun i => by have := h i; simpa [bitB] using this
  omega
theorem powI_lt {k n : Nat} (h : k < n) : powI (k : Int) < powI (n : Int) := by
  have h1 : powI ((k : Int) + 1) ≤ powI (n : Int) := powI_le (by omega)
  rw [powI_succ (by omega)] at h1
  have := powI_pos (k : Int)
  omega
end Go.Proofs.Ytipdmaggfbfnlaa
