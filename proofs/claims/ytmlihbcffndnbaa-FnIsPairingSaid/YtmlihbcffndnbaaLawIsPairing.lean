/- IsPairing's own law: both lists rise, and the one told for the first is the second. -/
import Derived.Test.YtmlihbcffndnbaaDrIsPairing
import Derived.Test.YtmlihbcffndnbaaMpO
import Derived.Test.YtmlihbcffndnbaaGxf
import Derived.Test.YtmlihbcffndnbaaGxc
import Derived.Test.YtmlihbcffndnbaaGxd
import Derived.Test.YtmlihbcffndnbaaEqI
set_option linter.unusedVariables false
set_option linter.unusedSimpArgs false
namespace Go.Proofs.Ytmlihbcffndnbaa
open Go.RowKit Go.Shelf

set_option maxRecDepth 100000 in
set_option maxHeartbeats 8000000 in
theorem fnIsPairing_walk (A : Option Addr) (m c : Nat) (bs : List Int) (w : World) (h : Byts w w.heap.size A m bs) (hcap : m ≤ c) :
    Calls Try.prog 10 #[.slice A m c] w fun e w' => e = .returned (.bool true) ∧ Below w.heap.size w w' := by
  by_cases hs : m ≤ 1048576
  · go_enter Try.func10, Try.ntmps10
    go_wp2_with fail
    refine (drawIsPairing_any A m c bs w h hcap (by omega)).mono ?_
    rintro e w1 ⟨A1, n, c1, zs, Ay, my, cy, ys, Af, cf, fs, Ag, l, cg, gs, rfl, hn7, hm7, hl7, hI1, hJ1, hF1, hG1, C1⟩
    have hlen := Lib.hid hI1.len
    have hlen2 := Lib.hid hJ1.len
    have hleng := Lib.hid hG1.len
    go_wp2_with fail
    refine (IsPairing_any A1 n c1 zs Ay my cy ys Af n cf fs Ag l cg gs w1 hI1 hJ1 hF1 hG1 (by omega) (by omega) (by omega) (by omega)).mono ?_
    rintro e w2 ⟨rfl, hB2⟩
    have C2 := C1.trans (hB2.mono C1.size)
    have hI2 := hI1.to hB2 (Nat.le_refl _) hB2.size
    have hJ2 := hJ1.to hB2 (Nat.le_refl _) hB2.size
    have hF2 := hF1.to hB2 (Nat.le_refl _) hB2.size
    have hG2 := hG1.to hB2 (Nat.le_refl _) hB2.size
    clear hI1 hJ1 hF1 hG1 hB2 C1
    cases hr : pairB zs ys fs gs
    · have Hr := Lib.hid hr
      clear hr
      go_wp2_with fail
      refine (specIsPairingF_any A1 n c1 zs Ay my cy ys Af n cf fs Ag l cg gs w2 hI2 hJ2 hF2 hG2 (by omega) (by omega) (by omega) (by omega)).mono ?_
      rw [Hr.out]
      rintro e w3 ⟨rfl, hB3⟩
      have C3 := C2.trans (hB3.mono C2.size)
      have hI3 := hI2.to hB3 (Nat.le_refl _) hB3.size
      have hJ3 := hJ2.to hB3 (Nat.le_refl _) hB3.size
      have hF3 := hF2.to hB3 (Nat.le_refl _) hB3.size
      have hG3 := hG2.to hB3 (Nat.le_refl _) hB3.size
      go_wp2_with fail
      refine (specIsPairingF_any A1 n c1 zs Ay my cy ys Af n cf fs Ag l cg gs w3 hI3 hJ3 hF3 hG3 (by omega) (by omega) (by omega) (by omega)).mono ?_
      rw [Hr.out]
      rintro e w4 ⟨rfl, hB4⟩
      go_wp2_with fail
      go_ret
      exact ⟨rfl, C3.trans (hB4.mono C3.size)⟩
    · have Hr := Lib.hid hr
      obtain ⟨hpo, hgs, hri⟩ := pair_po hr
      have Hri := Lib.hid hri
      have Hri2 := Lib.hid (pair_ris2 hr)
      have Hpo := Lib.hid hpo
      have Hgs := Lib.hid (show poR zs ys fs = gs by unfold poR; rw [hpo, hgs]; rfl)
      clear hr hpo hgs hri
      go_wp2_with fail
      refine (specIsPairingF_any A1 n c1 zs Ay my cy ys Af n cf fs Ag l cg gs w2 hI2 hJ2 hF2 hG2 (by omega) (by omega) (by omega) (by omega)).mono ?_
      rw [Hr.out]
      rintro e w3 ⟨rfl, hB3⟩
      have C3 := C2.trans (hB3.mono C2.size)
      have hI3 := hI2.to hB3 (Nat.le_refl _) hB3.size
      have hJ3 := hJ2.to hB3 (Nat.le_refl _) hB3.size
      have hF3 := hF2.to hB3 (Nat.le_refl _) hB3.size
      have hG3 := hG2.to hB3 (Nat.le_refl _) hB3.size
      clear hI2 hJ2 hF2 hG2 hB3 C2
      go_wp2_with fail
      refine (PairOf_any A1 n c1 zs Ay my cy ys Af n cf fs w3 hI3 hJ3 hF3 (by omega) (by omega) (by omega)).mono ?_
      rw [Hgs.out, Hpo.out]
      rintro e w4 ⟨A4, n4, c4, rfl, r4, hB4⟩
      have C4 := C3.trans (hB4.mono C3.size)
      have hI4 := hI3.to hB4 (Nat.le_refl _) hB4.size
      have hJ4 := hJ3.to hB4 (Nat.le_refl _) hB4.size
      have hF4 := hF3.to hB4 (Nat.le_refl _) hB4.size
      have hG4 := hG3.to hB4 (Nat.le_refl _) hB4.size
      have hO4 := r4.ints (B := w4.heap.size) (Nat.le_refl _)
      have e4 := r4.len
      rw [hleng.out] at e4
      subst e4
      clear hI3 hJ3 hF3 hG3 hB4 C3 r4
      go_wp2_with fail
      refine (IsRising_any A1 n c1 zs Ay my cy ys Af n cf fs w4 hI4 hJ4 hF4 (by omega) (by omega) (by omega)).mono ?_
      rw [Hri.out]
      rintro e w5 ⟨rfl, hB5⟩
      have C5 := C4.trans (hB5.mono C4.size)
      have hI5 := hI4.to hB5 (Nat.le_refl _) hB5.size
      have hJ5 := hJ4.to hB5 (Nat.le_refl _) hB5.size
      have hG5 := hG4.to hB5 (Nat.le_refl _) hB5.size
      have hO5 := hO4.to hB5 (Nat.le_refl _) hB5.size
      clear hI4 hJ4 hF4 hG4 hO4 hB5 C4
      go_wp2_with fail
      refine (IsRising_any Ay my cy ys A1 n c1 zs Ag l cg gs w5 hJ5 hI5 hG5 (by omega) (by omega) (by omega)).mono ?_
      rw [Hri2.out]
      rintro e w6 ⟨rfl, hB6⟩
      have C6 := C5.trans (hB6.mono C5.size)
      have hG6 := hG5.to hB6 (Nat.le_refl _) hB6.size
      have hO6 := hO5.to hB6 (Nat.le_refl _) hB6.size
      have hgg : decide (gs = gs) = true := by simp
      go_wp2_with fail
      refine (below_quiet (equalInts_any _ _ _ _ _ _ w6.heap.size w6.heap.size _ _ _ hO6 hG6 (by omega) (by omega))).mono ?_
      rintro e w7 ⟨rfl, hB7⟩
      go_wp2_with fail
      go_ret
      exact ⟨ret_bool (by simp), C6.trans (hB7.mono C6.size)⟩
  · go_enter Try.func10, Try.ntmps10
    go_wp2
    go_ret
    exact ⟨rfl, Below.refl _ _⟩
end Go.Proofs.Ytmlihbcffndnbaa
