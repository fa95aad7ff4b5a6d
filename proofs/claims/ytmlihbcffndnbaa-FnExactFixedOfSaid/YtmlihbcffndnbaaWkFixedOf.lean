/- The walk of the exact law of FixedOf. -/
import Derived.Test.YtmlihbcffndnbaaMpT
import Derived.Test.YtmlihbcffndnbaaMpK
import Derived.Test.YtmlihbcffndnbaaGa
set_option linter.unusedVariables false
set_option linter.unusedSimpArgs false
namespace Go.Proofs.Ytmlihbcffndnbaa
open Go.RowKit

set_option maxHeartbeats 4000000 in
theorem exactFixedOf_walk (A0 : Option Addr) (n0 c0 : Nat) (z0 : List Int) (A1 : Option Addr) (n1 c1 : Nat) (z1 : List Int) (w : World) (h0 : Ints w w.heap.size A0 n0 z0) (h1 : Ints w w.heap.size A1 n1 z1) :
    Calls Try.prog 5 #[.slice A0 n0 c0, .slice A1 n1 c1] w fun e w' => e = .returned (.bool true) ∧ Below w.heap.size w w' := by
  by_cases s0 : n0 ≤ 1048576
  · by_cases s1 : n1 ≤ 1048576
    · go_enter Try.func5, Try.ntmps5
      go_wp2_with fail
      refine (toIntS_any A0 n0 c0 z0 w h0 s0).mono ?_
      rintro e w1 ⟨rfl, hA1, hB1⟩
      have C1 := hB1
      have ia1 := hA1.ints' hA1.lt h0.len
      go_wp2_with fail
      refine (toIntS_any A1 n1 c1 z1 w1 (h1.to C1 (Nat.le_refl _) C1.size) s1).mono ?_
      rintro e w2 ⟨rfl, hA2, hB2⟩
      have C2 := C1.trans (hB2.mono C1.size)
      have ia2 := ia1.to hB2 (Nat.le_refl _) hB2.size
      have jb2 := hA2.ints' hA2.lt h1.len
      go_wp2_with fail
      refine (specFixedOfF_any _ n0 _ z0 _ n1 _ z1 w2 ia2 jb2 (by omega) (by omega)).mono ?_
      rintro e w3 ⟨rfl, hB3⟩
      have C3 := C2.trans (hB3.mono C2.size)
      have ia3 := ia2.to hB3 (Nat.le_refl _) hB3.size
      have jb3 := jb2.to hB3 (Nat.le_refl _) hB3.size
      clear ia3
      clear jb3
      go_wp2_with fail
      refine (toIntS_any A0 n0 c0 z0 w3 (h0.to C3 (Nat.le_refl _) C3.size) s0).mono ?_
      rintro e w4 ⟨rfl, hA4, hB4⟩
      have C4 := C3.trans (hB4.mono C3.size)
      have xa4 := hA4.ints' hA4.lt h0.len
      go_wp2_with fail
      refine (toIntS_any A1 n1 c1 z1 w4 (h1.to C4 (Nat.le_refl _) C4.size) s1).mono ?_
      rintro e w5 ⟨rfl, hA5, hB5⟩
      have C5 := C4.trans (hB5.mono C4.size)
      have xa5 := xa4.to hB5 (Nat.le_refl _) hB5.size
      have xb5 := hA5.ints' hA5.lt h1.len
      go_wp2_with fail
      refine (FixedOf_any _ n0 _ z0 _ n1 _ z1 w5 xa5 xb5 (by omega) (by omega)).mono ?_
      rintro e w6 ⟨rfl, hB6⟩
      have C6 := C5.trans (hB6.mono C5.size)
      have xa6 := xa5.to hB6 (Nat.le_refl _) hB6.size
      have xb6 := xb5.to hB6 (Nat.le_refl _) hB6.size
      have hne : (fixedR z0 z1 != fixedR z0 z1) = false := by simp
      have hz0 : decide (z0 = z0) = true := by simp
      have hz1 : decide (z1 = z1) = true := by simp
      go_wp2_with fail
      refine (toIntS_any A0 n0 c0 z0 w6 (h0.to C6 (Nat.le_refl _) C6.size) s0).mono ?_
      rintro e w7 ⟨rfl, hA7, hB7⟩
      have C7 := C6.trans (hB7.mono C6.size)
      have xa7 := xa6.to hB7 (Nat.le_refl _) hB7.size
      have xb7 := xb6.to hB7 (Nat.le_refl _) hB7.size
      have ma7 := hA7.ints' hA7.lt h0.len
      go_wp2_with fail
      refine (below_quiet (eqIntS_any _ _ _ _ _ _ w7.heap.size w7.heap.size z0 z0 _ xa7 ma7 (by omega) (by omega))).mono ?_
      rintro e w8 ⟨rfl, hB8⟩
      have C8 := C7.trans (hB8.mono C7.size)
      have xa8 := xa7.to hB8 (Nat.le_refl _) hB8.size
      have xb8 := xb7.to hB8 (Nat.le_refl _) hB8.size
      have ma8 := ma7.to hB8 (Nat.le_refl _) hB8.size
      clear ma8
      go_wp2_with fail
      refine (toIntS_any A1 n1 c1 z1 w8 (h1.to C8 (Nat.le_refl _) C8.size) s1).mono ?_
      rintro e w9 ⟨rfl, hA9, hB9⟩
      have C9 := C8.trans (hB9.mono C8.size)
      have xa9 := xa8.to hB9 (Nat.le_refl _) hB9.size
      have xb9 := xb8.to hB9 (Nat.le_refl _) hB9.size
      have ma9 := hA9.ints' hA9.lt h1.len
      go_wp2_with fail
      refine (below_quiet (eqIntS_any _ _ _ _ _ _ w9.heap.size w9.heap.size z1 z1 _ xb9 ma9 (by omega) (by omega))).mono ?_
      rintro e w10 ⟨rfl, hB10⟩
      have C10 := C9.trans (hB10.mono C9.size)
      have xa10 := xa9.to hB10 (Nat.le_refl _) hB10.size
      have xb10 := xb9.to hB10 (Nat.le_refl _) hB10.size
      have ma10 := ma9.to hB10 (Nat.le_refl _) hB10.size
      clear ma10
      go_wp2_with fail
      go_ret
      exact ⟨rfl, C10⟩
    · go_enter Try.func5, Try.ntmps5
      go_wp2
      go_ret
      exact ⟨rfl, Below.refl _ _⟩
  · go_enter Try.func5, Try.ntmps5
    go_wp2
    go_ret
    exact ⟨rfl, Below.refl _ _⟩
end Go.Proofs.Ytmlihbcffndnbaa
