/- ForestLines' own law: the lines are as many as counted at once. -/
import Derived.Test.YthjmedbjdjkilaaDrForestLines
import Derived.Test.YthjmedbjdjkilaaForI
import Derived.Test.YthjmedbjdjkilaaForS
import Derived.Test.YthjmedbjdjkilaaCntI
import Derived.Test.YthjmedbjdjkilaaHook
namespace Go.Proofs.Ythjmedbjdjkilaa
open Go.RowKit Go.Shelf

set_option maxRecDepth 100000 in
set_option maxHeartbeats 8000000 in
theorem fnForestLines_walk (A : Option Addr) (m c : Nat) (bs : List Int) (w : World) (h : Byts w w.heap.size A m bs) (hcap : m ≤ c) :
    Calls Try.prog 7 #[.slice A m c] w fun e w' => e = .returned (.bool true) ∧ Below w.heap.size w w' := by
  by_cases hs : m ≤ 1048576
  · go_enter Try.func7, Try.ntmps7
    go_wp2_with fail
    refine (drawForestLines_any A m c bs w h hcap (by omega)).mono ?_
    rintro e w1 ⟨A1, n, c1, zs, rfl, hn7, hI1, C1⟩
    have hlen := Lib.hid hI1.len
    cases hv : (vo zs && allCh zs)
    · have HL := Lib.hid (show forestR zs = -1 by unfold forestR; rw [hv]; rfl)
      clear hv
      go_wp2_with fail
      refine (ForestLines_any A1 n c1 zs w1 hI1 (by omega)).mono ?_
      rw [HL.out]
      rintro e w2 ⟨rfl, hB2⟩
      have z2 := hB2.size
      have C2 := C1.trans (hB2.mono C1.size)
      have hI2 := hI1.to hB2 (Nat.le_refl _) z2
      clear hI1 hB2 C1
      go_wp2_with fail
      refine (specForestLinesF_any A1 n c1 zs w2 hI2 (by omega)).mono ?_
      rw [HL.out]
      rintro e w3 ⟨rfl, hB3⟩
      have z3 := hB3.size
      have C3 := C2.trans (hB3.mono C2.size)
      have hI3 := hI2.to hB3 (Nat.le_refl _) z3
      clear hI2 hB3 C2
      go_wp2_with fail
      refine (specForestLinesF_any A1 n c1 zs w3 hI3 (by omega)).mono ?_
      rw [HL.out]
      rintro e w4 ⟨rfl, hB4⟩
      have z4 := hB4.size
      have C4 := C3.trans (hB4.mono C3.size)
      have hI4 := hI3.to hB4 (Nat.le_refl _) z4
      clear hI3 hB4 C3
      go_wp2_with fail
      go_ret
      exact ⟨rfl, C4⟩
    · rw [Bool.and_eq_true] at hv
      have hvo : VoP zs := by simpa [vo] using hv.1
      obtain ⟨hL, hnn⟩ := forest_lines hvo hv.2
      clear hv
      obtain ⟨F, hF⟩ : ∃ F, forestR zs = F := ⟨_, rfl⟩
      rw [hF] at hL hnn
      have HF := Lib.hid hF
      have HL := Lib.hid hL
      clear hF hL
      go_wp2_with fail
      refine (ForestLines_any A1 n c1 zs w1 hI1 (by omega)).mono ?_
      rw [HF.out]
      rintro e w2 ⟨rfl, hB2⟩
      have z2 := hB2.size
      have C2 := C1.trans (hB2.mono C1.size)
      have hI2 := hI1.to hB2 (Nat.le_refl _) z2
      clear hI1 hB2 C1
      go_wp2_with fail
      refine (specForestLinesF_any A1 n c1 zs w2 hI2 (by omega)).mono ?_
      rw [HF.out]
      rintro e w3 ⟨rfl, hB3⟩
      have z3 := hB3.size
      have C3 := C2.trans (hB3.mono C2.size)
      have hI3 := hI2.to hB3 (Nat.le_refl _) z3
      clear hI2 hB3 C2
      go_wp2_with fail
      refine (CountLines_any A1 n c1 zs w3 hI3 (by omega)).mono ?_
      rw [HL.out]
      rintro e w4 ⟨rfl, hB4⟩
      have z4 := hB4.size
      have C4 := C3.trans (hB4.mono C3.size)
      have hI4 := hI3.to hB4 (Nat.le_refl _) z4
      clear hI3 hB4 C3
      go_wp2_with fail
      go_ret
      exact ⟨rfl, C4⟩
  · go_enter Try.func7, Try.ntmps7
    go_wp2
    go_ret
    exact ⟨rfl, Below.refl _ _⟩
end Go.Proofs.Ythjmedbjdjkilaa
