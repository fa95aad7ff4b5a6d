/- The walk of the exact law of IsEven. -/
import Derived.Test.YtmlihbcffndnbabDoorGxh
import Derived.Test.YtmlihbcffndnbabDoorGa
set_option linter.unusedVariables false
set_option linter.unusedSimpArgs false
namespace Go.Proofs.YtmlihbcffndnbabDoor
open Go.RowKit

set_option maxHeartbeats 1000000 in
theorem exactIsEven_walk (A : Option Addr) (n c : Nat) (zs : List Int) (w : World) (h : Ints w w.heap.size A n zs) (hE : Et w) :
    Calls Tryd.prog 6 #[.slice A n c] w fun e w' => e = .returned (.bool true) ∧ Below w.heap.size w w' := by
  by_cases hs : n ≤ 1048576
  · go_enter Tryd.func6, Tryd.ntmps6
    go_wp2_with fail
    refine (toIntS_any A n c zs _ h hs).mono ?_
    rintro e w1 ⟨rfl, hA1, hB1⟩
    go_wp2_with fail
    refine (specIsEvenF_any _ _ _ zs _ (hA1.ints' hA1.lt h.len) (by omega)).mono ?_
    rintro e w2 ⟨rfl, hB2⟩
    have z1 := hB1.size
    have z2 := hB2.size
    have C2 := hB1.trans (hB2.mono z1)
    go_wp2_with fail
    refine (toIntS_any A n c zs _ (h.to C2 (Nat.le_refl _) (by omega)) hs).mono ?_
    rintro e w3 ⟨rfl, hA3, hB3⟩
    have z3 := hB3.size
    have C3 := C2.trans (hB3.mono (by omega))
    go_wp2_with fail
    refine (IsEven_any _ _ _ zs _ (hA3.ints' hA3.lt h.len) (by omega) (hE.below C3 hE.2)).mono ?_
    rintro e w4 ⟨rfl, hB4⟩
    have hA4 := hA3.below hB4 hA3.lt
    have z4 := hB4.size
    have C4 := C3.trans (hB4.mono (by omega))
    have hne : (evenR zs != evenR zs) = false := by simp
    go_wp2_with fail
    refine (toIntS_any A n c zs _ (h.to C4 (Nat.le_refl _) (by omega)) hs).mono ?_
    rintro e w5 ⟨rfl, hA5, hB5⟩
    have hA45 := hA4.below hB5 hA4.lt
    have z5 := hB5.size
    have C5 := C4.trans (hB5.mono (by omega))
    go_wp2_with fail
    refine (below_quiet (eqIntS_any _ _ _ _ _ _ w5.heap.size w5.heap.size zs zs _ (hA45.ints' hA45.lt h.len) (hA5.ints' hA5.lt h.len) (by omega) (by omega))).mono ?_
    rintro e w6 ⟨rfl, hB6⟩
    have hzz : decide (zs = zs) = true := by simp
    have C6 := C5.trans (hB6.mono (by omega))
    go_wp2_with fail
    go_ret
    exact ⟨rfl, C6⟩
  · go_enter Tryd.func6, Tryd.ntmps6
    go_wp2
    go_ret
    exact ⟨rfl, Below.refl _ _⟩
end Go.Proofs.YtmlihbcffndnbabDoor
