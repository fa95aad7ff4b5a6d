/- The walk of the exact law of IsRising. -/
import Derived.Test.YtmlihbcffndnbaaMpT
import Derived.Test.YtmlihbcffndnbaaMpK
import Derived.Test.YtmlihbcffndnbaaGa
set_option linter.unusedVariables false
set_option linter.unusedSimpArgs false
namespace Go.Proofs.Ytmlihbcffndnbaa
open Go.RowKit

set_option maxHeartbeats 4000000 in
theorem exactIsRising_walk (A0 : Option Addr) (n0 c0 : Nat) (z0 : List Int) (A1 : Option Addr) (n1 c1 : Nat) (z1 : List Int) (A2 : Option Addr) (n2 c2 : Nat) (z2 : List Int) (w : World) (h0 : Ints w w.heap.size A0 n0 z0) (h1 : Ints w w.heap.size A1 n1 z1) (h2 : Ints w w.heap.size A2 n2 z2) :
    Calls Try.prog 3 #[.slice A0 n0 c0, .slice A1 n1 c1, .slice A2 n2 c2] w fun e w' => e = .returned (.bool true) ∧ Below w.heap.size w w' := by
  by_cases s0 : n0 ≤ 1048576
  · by_cases s1 : n1 ≤ 1048576
    · by_cases s2 : n2 ≤ 1048576
      · go_enter Try.func3, Try.ntmps3
        go_wp2_with fail
        refine (toIntS_any A0 n0 c0 z0 w h0 s0).mono ?_
        rintro e w1 ⟨rfl, hA1, hB1⟩
        have C1 := hB1
        have ia1 := hA1.ints' hA1.lt h0.len
        go_wp2_with fail
        refine (toIntS_any A1 n1 c1 z1 w1 (h1.to C1 (Nat.le_refl _) C1.size) s1).mono ?_
        rintro e w2 ⟨rfl, hA2, hB2⟩
        have C2 := C1.trans (hB2.mono C1.size)
        have ia2 := ia1.to hB2 (Nat.le_refl _) hB2.size
        have jb2 := hA2.ints' hA2.lt h1.len
        go_wp2_with fail
        refine (toIntS_any A2 n2 c2 z2 w2 (h2.to C2 (Nat.le_refl _) C2.size) s2).mono ?_
        rintro e w3 ⟨rfl, hA3, hB3⟩
        have C3 := C2.trans (hB3.mono C2.size)
        have ia3 := ia2.to hB3 (Nat.le_refl _) hB3.size
        have jb3 := jb2.to hB3 (Nat.le_refl _) hB3.size
        have kd3 := hA3.ints' hA3.lt h2.len
        go_wp2_with fail
        refine (specIsRisingF_any _ n0 _ z0 _ n1 _ z1 _ n2 _ z2 w3 ia3 jb3 kd3 (by omega) (by omega) (by omega)).mono ?_
        rintro e w4 ⟨rfl, hB4⟩
        have C4 := C3.trans (hB4.mono C3.size)
        have ia4 := ia3.to hB4 (Nat.le_refl _) hB4.size
        have jb4 := jb3.to hB4 (Nat.le_refl _) hB4.size
        have kd4 := kd3.to hB4 (Nat.le_refl _) hB4.size
        clear ia4
        clear jb4
        clear kd4
        go_wp2_with fail
        refine (toIntS_any A0 n0 c0 z0 w4 (h0.to C4 (Nat.le_refl _) C4.size) s0).mono ?_
        rintro e w5 ⟨rfl, hA5, hB5⟩
        have C5 := C4.trans (hB5.mono C4.size)
        have xa5 := hA5.ints' hA5.lt h0.len
        go_wp2_with fail
        refine (toIntS_any A1 n1 c1 z1 w5 (h1.to C5 (Nat.le_refl _) C5.size) s1).mono ?_
        rintro e w6 ⟨rfl, hA6, hB6⟩
        have C6 := C5.trans (hB6.mono C5.size)
        have xa6 := xa5.to hB6 (Nat.le_refl _) hB6.size
        have xb6 := hA6.ints' hA6.lt h1.len
        go_wp2_with fail
        refine (toIntS_any A2 n2 c2 z2 w6 (h2.to C6 (Nat.le_refl _) C6.size) s2).mono ?_
        rintro e w7 ⟨rfl, hA7, hB7⟩
        have C7 := C6.trans (hB7.mono C6.size)
        have xa7 := xa6.to hB7 (Nat.le_refl _) hB7.size
        have xb7 := xb6.to hB7 (Nat.le_refl _) hB7.size
        have xd7 := hA7.ints' hA7.lt h2.len
        go_wp2_with fail
        refine (IsRising_any _ n0 _ z0 _ n1 _ z1 _ n2 _ z2 w7 xa7 xb7 xd7 (by omega) (by omega) (by omega)).mono ?_
        rintro e w8 ⟨rfl, hB8⟩
        have C8 := C7.trans (hB8.mono C7.size)
        have xa8 := xa7.to hB8 (Nat.le_refl _) hB8.size
        have xb8 := xb7.to hB8 (Nat.le_refl _) hB8.size
        have xd8 := xd7.to hB8 (Nat.le_refl _) hB8.size
        have hne : (risB z0 z1 z2 != risB z0 z1 z2) = false := by simp
        have hz0 : decide (z0 = z0) = true := by simp
        have hz1 : decide (z1 = z1) = true := by simp
        have hz2 : decide (z2 = z2) = true := by simp
        go_wp2_with fail
        refine (toIntS_any A0 n0 c0 z0 w8 (h0.to C8 (Nat.le_refl _) C8.size) s0).mono ?_
        rintro e w9 ⟨rfl, hA9, hB9⟩
        have C9 := C8.trans (hB9.mono C8.size)
        have xa9 := xa8.to hB9 (Nat.le_refl _) hB9.size
        have xb9 := xb8.to hB9 (Nat.le_refl _) hB9.size
        have xd9 := xd8.to hB9 (Nat.le_refl _) hB9.size
        have ma9 := hA9.ints' hA9.lt h0.len
        go_wp2_with fail
        refine (below_quiet (eqIntS_any _ _ _ _ _ _ w9.heap.size w9.heap.size z0 z0 _ xa9 ma9 (by omega) (by omega))).mono ?_
        rintro e w10 ⟨rfl, hB10⟩
        have C10 := C9.trans (hB10.mono C9.size)
        have xa10 := xa9.to hB10 (Nat.le_refl _) hB10.size
        have xb10 := xb9.to hB10 (Nat.le_refl _) hB10.size
        have xd10 := xd9.to hB10 (Nat.le_refl _) hB10.size
        have ma10 := ma9.to hB10 (Nat.le_refl _) hB10.size
        clear ma10
        go_wp2_with fail
        refine (toIntS_any A1 n1 c1 z1 w10 (h1.to C10 (Nat.le_refl _) C10.size) s1).mono ?_
        rintro e w11 ⟨rfl, hA11, hB11⟩
        have C11 := C10.trans (hB11.mono C10.size)
        have xa11 := xa10.to hB11 (Nat.le_refl _) hB11.size
        have xb11 := xb10.to hB11 (Nat.le_refl _) hB11.size
        have xd11 := xd10.to hB11 (Nat.le_refl _) hB11.size
        have ma11 := hA11.ints' hA11.lt h1.len
        go_wp2_with fail
        refine (below_quiet (eqIntS_any _ _ _ _ _ _ w11.heap.size w11.heap.size z1 z1 _ xb11 ma11 (by omega) (by omega))).mono ?_
        rintro e w12 ⟨rfl, hB12⟩
        have C12 := C11.trans (hB12.mono C11.size)
        have xa12 := xa11.to hB12 (Nat.le_refl _) hB12.size
        have xb12 := xb11.to hB12 (Nat.le_refl _) hB12.size
        have xd12 := xd11.to hB12 (Nat.le_refl _) hB12.size
        have ma12 := ma11.to hB12 (Nat.le_refl _) hB12.size
        clear ma12
        go_wp2_with fail
        refine (toIntS_any A2 n2 c2 z2 w12 (h2.to C12 (Nat.le_refl _) C12.size) s2).mono ?_
        rintro e w13 ⟨rfl, hA13, hB13⟩
        have C13 := C12.trans (hB13.mono C12.size)
        have xa13 := xa12.to hB13 (Nat.le_refl _) hB13.size
        have xb13 := xb12.to hB13 (Nat.le_refl _) hB13.size
        have xd13 := xd12.to hB13 (Nat.le_refl _) hB13.size
        have ma13 := hA13.ints' hA13.lt h2.len
        go_wp2_with fail
        refine (below_quiet (eqIntS_any _ _ _ _ _ _ w13.heap.size w13.heap.size z2 z2 _ xd13 ma13 (by omega) (by omega))).mono ?_
        rintro e w14 ⟨rfl, hB14⟩
        have C14 := C13.trans (hB14.mono C13.size)
        have xa14 := xa13.to hB14 (Nat.le_refl _) hB14.size
        have xb14 := xb13.to hB14 (Nat.le_refl _) hB14.size
        have xd14 := xd13.to hB14 (Nat.le_refl _) hB14.size
        have ma14 := ma13.to hB14 (Nat.le_refl _) hB14.size
        clear ma14
        go_wp2_with fail
        go_ret
        exact ⟨rfl, C14⟩
      · go_enter Try.func3, Try.ntmps3
        go_wp2
        go_ret
        exact ⟨rfl, Below.refl _ _⟩
    · go_enter Try.func3, Try.ntmps3
      go_wp2
      go_ret
      exact ⟨rfl, Below.refl _ _⟩
  · go_enter Try.func3, Try.ntmps3
    go_wp2
    go_ret
    exact ⟨rfl, Below.refl _ _⟩
end Go.Proofs.Ytmlihbcffndnbaa
