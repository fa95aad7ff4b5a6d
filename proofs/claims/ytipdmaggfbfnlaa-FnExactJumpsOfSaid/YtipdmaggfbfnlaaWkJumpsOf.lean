/- The walk of the exact law of JumpsOf. -/
import Derived.Test.YtipdmaggfbfnlaaJpS
import Derived.Test.YtipdmaggfbfnlaaJpI
import Derived.Test.YtipdmaggfbfnlaaHelp
namespace Go.Proofs.Ytipdmaggfbfnlaa
open Go.RowKit

set_option maxHeartbeats 2000000 in
theorem exactJumpsOf_walk (A : Option Addr) (n c : Nat) (zs : List Int) (A' : Option Addr) (n' c' : Nat) (ls : List Int) (w : World) (h : Ints w w.heap.size A n zs) (h' : Ints w w.heap.size A' n' ls) :
    Calls Try.prog 3 #[.slice A n c, .slice A' n' c'] w fun e w' => e = .returned (.bool true) ∧ Below w.heap.size w w' := by
  by_cases hs : n ≤ 1048576
  · by_cases hs' : n' ≤ 1048576
    · go_enter Try.func3, Try.ntmps3
      go_wp2_with fail
      refine (toIntS_any A n c zs _ h hs).mono ?_
      rintro e w1 ⟨rfl, hA1, hB1⟩
      have C1 := hB1
      have i1 := hA1.ints' hA1.lt h.len
      have k1 := h'.to C1 (Nat.le_refl _) C1.size
      go_wp2_with fail
      refine (toIntS_any A' n' c' ls _ k1 hs').mono ?_
      rintro e w2 ⟨rfl, hA2, hB2⟩
      have C2 := C1.trans (hB2.mono C1.size)
      have i2 := i1.to hB2 (Nat.le_refl _) hB2.size
      have j2 := hA2.ints' hA2.lt h'.len
      go_wp2_with fail
      refine (specJumpsOfF_any _ n _ zs _ n' _ ls w2 i2 j2 (by omega) (by omega)).mono ?_
      rintro e w3 ⟨rfl, hB3⟩
      have C3 := C2.trans (hB3.mono C2.size)
      clear hA1 hA2 i1 i2 j2 hB1 hB2 hB3 k1
      go_wp2_with fail
      refine (toIntS_any A n c zs _ (h.to C3 (Nat.le_refl _) C3.size) hs).mono ?_
      rintro e w4 ⟨rfl, hA4, hB4⟩
      have C4 := C3.trans (hB4.mono C3.size)
      have i4 := hA4.ints' hA4.lt h.len
      go_wp2_with fail
      refine (toIntS_any A' n' c' ls _ (h'.to C4 (Nat.le_refl _) C4.size) hs').mono ?_
      rintro e w5 ⟨rfl, hA5, hB5⟩
      have C5 := C4.trans (hB5.mono C4.size)
      have i5 := i4.to hB5 (Nat.le_refl _) hB5.size
      have j5 := hA5.ints' hA5.lt h'.len
      go_wp2_with fail
      refine (JumpsOf_any _ n _ zs _ n' _ ls w5 i5 j5 (by omega) (by omega)).mono ?_
      rintro e w6 ⟨rfl, hB6⟩
      have C6 := C5.trans (hB6.mono C5.size)
      have i6 := i5.to hB6 (Nat.le_refl _) hB6.size
      have j6 := j5.to hB6 (Nat.le_refl _) hB6.size
      clear hA4 hA5 i4 i5 j5 hB4 hB5 hB6
      have hne : (jumpsR zs ls != jumpsR zs ls) = false := by simp
      go_wp2_with fail
      refine (toIntS_any A n c zs _ (h.to C6 (Nat.le_refl _) C6.size) hs).mono ?_
      rintro e w7 ⟨rfl, hA7, hB7⟩
      have C7 := C6.trans (hB7.mono C6.size)
      have i7 := i6.to hB7 (Nat.le_refl _) hB7.size
      have j7 := j6.to hB7 (Nat.le_refl _) hB7.size
      have hzz : decide (zs = zs) = true := by simp
      have hll : decide (ls = ls) = true := by simp
      go_wp2_with fail
      refine (below_quiet (eqIntS_any _ _ _ _ _ _ w7.heap.size w7.heap.size zs zs _ i7 (hA7.ints' hA7.lt h.len) (by omega) (by omega))).mono ?_
      rintro e w8 ⟨rfl, hB8⟩
      have C8 := C7.trans (hB8.mono C7.size)
      have j8 := j7.to hB8 (Nat.le_refl _) hB8.size
      go_wp2_with fail
      refine (toIntS_any A' n' c' ls _ (h'.to C8 (Nat.le_refl _) C8.size) hs').mono ?_
      rintro e w9 ⟨rfl, hA9, hB9⟩
      have C9 := C8.trans (hB9.mono C8.size)
      have j9 := j8.to hB9 (Nat.le_refl _) hB9.size
      go_wp2_with fail
      refine (below_quiet (eqIntS_any _ _ _ _ _ _ w9.heap.size w9.heap.size ls ls _ j9 (hA9.ints' hA9.lt h'.len) (by omega) (by omega))).mono ?_
      rintro e w10 ⟨rfl, hB10⟩
      go_wp2_with fail
      go_ret
      exact ⟨rfl, C9.trans (hB10.mono C9.size)⟩
    · go_enter Try.func3, Try.ntmps3
      go_wp2
      go_ret
      exact ⟨rfl, Below.refl _ _⟩
  · go_enter Try.func3, Try.ntmps3
    go_wp2
    go_ret
    exact ⟨rfl, Below.refl _ _⟩
end Go.Proofs.Ytipdmaggfbfnlaa
