/- LineRank's own law: the line of the rank is the line, and there are more lines. -/
import Derived.Test.YthjmedbjdjkilaaDrLineRank
import Derived.Test.YthjmedbjdjkilaaLatI
import Derived.Test.YthjmedbjdjkilaaRankS
import Derived.Test.YthjmedbjdjkilaaRkPos
import Derived.Test.YthjmedbjdjkilaaRankI
import Derived.Test.YthjmedbjdjkilaaEqI
import Derived.Test.YthjmedbjdjkilaaCntI
namespace Go.Proofs.Ythjmedbjdjkilaa
open Go.RowKit Go.Shelf

set_option maxRecDepth 100000 in
set_option maxHeartbeats 8000000 in
theorem fnLineRank_walk (A : Option Addr) (m c : Nat) (bs : List Int) (w : World) (h : Byts w w.heap.size A m bs) (hcap : m ≤ c) :
    Calls Try.prog 5 #[.slice A m c] w fun e w' => e = .returned (.bool true) ∧ Below w.heap.size w w' := by
  by_cases hs : m ≤ 1048576
  · go_enter Try.func5, Try.ntmps5
    go_wp2_with fail
    refine (drawLineRank_any A m c bs w h hcap (by omega)).mono ?_
    rintro e w1 ⟨A1, n, c1, zs, A9, m9, c9, ls, rfl, hn7, hm7, hI1, hJ1, C1⟩
    have hlen := Lib.hid hI1.len
    cases hv : isLineR zs ls
    · have HL := Lib.hid (show rankR zs ls = -1 by unfold rankR; rw [hv]; rfl)
      clear hv
      go_wp2_with fail
      refine (LineRank_any A1 n c1 zs A9 m9 c9 ls w1 hI1 hJ1 (by omega) (by omega)).mono ?_
      rw [HL.out]
      rintro e w2 ⟨rfl, hB2⟩
      have z2 := hB2.size
      have C2 := C1.trans (hB2.mono C1.size)
      have hI2 := hI1.to hB2 (Nat.le_refl _) z2
      have hJ2 := hJ1.to hB2 (Nat.le_refl _) z2
      clear hI1 hJ1 hB2 C1
      go_wp2_with fail
      refine (specLineRankF_any A1 n c1 zs A9 m9 c9 ls w2 hI2 hJ2 (by omega) (by omega)).mono ?_
      rw [HL.out]
      rintro e w3 ⟨rfl, hB3⟩
      have z3 := hB3.size
      have C3 := C2.trans (hB3.mono C2.size)
      have hI3 := hI2.to hB3 (Nat.le_refl _) z3
      have hJ3 := hJ2.to hB3 (Nat.le_refl _) z3
      clear hI2 hJ2 hB3 C2
      go_wp2_with fail
      refine (specLineRankF_any A1 n c1 zs A9 m9 c9 ls w3 hI3 hJ3 (by omega) (by omega)).mono ?_
      rw [HL.out]
      rintro e w4 ⟨rfl, hB4⟩
      have z4 := hB4.size
      have C4 := C3.trans (hB4.mono C3.size)
      have hI4 := hI3.to hB4 (Nat.le_refl _) z4
      have hJ4 := hJ3.to hB4 (Nat.le_refl _) z4
      clear hI3 hJ3 hB4 C3
      go_wp2_with fail
      go_ret
      exact ⟨rfl, C4⟩
    · obtain ⟨Q, F, hQF, hF, hL, hLn, hH, hA, hml⟩ := rank_facts hv
      clear hv
      have HL := Lib.hid hL
      have HLn := Lib.hid hLn
      have HH := Lib.hid hH
      have HA := Lib.hid hA
      clear hL hLn hH hA
      go_wp2_with fail
      refine (LineRank_any A1 n c1 zs A9 m9 c9 ls w1 hI1 hJ1 (by omega) (by omega)).mono ?_
      rw [HL.out]
      rintro e w2 ⟨rfl, hB2⟩
      have z2 := hB2.size
      have C2 := C1.trans (hB2.mono C1.size)
      have hI2 := hI1.to hB2 (Nat.le_refl _) z2
      have hJ2 := hJ1.to hB2 (Nat.le_refl _) z2
      clear hI1 hJ1 hB2 C1
      go_wp2_with fail
      refine (specLineRankF_any A1 n c1 zs A9 m9 c9 ls w2 hI2 hJ2 (by omega) (by omega)).mono ?_
      rw [HL.out]
      rintro e w3 ⟨rfl, hB3⟩
      have z3 := hB3.size
      have C3 := C2.trans (hB3.mono C2.size)
      have hI3 := hI2.to hB3 (Nat.le_refl _) z3
      have hJ3 := hJ2.to hB3 (Nat.le_refl _) z3
      clear hI2 hJ2 hB3 C2
      go_wp2_with fail
      refine (LineAt_any A1 n c1 zs (Q : Int) w3 hI3 (by omega)).mono ?_
      rw [HH.out, HA.out]
      rintro e w4 ⟨A4, m4, c4, rfl, r4, hB4⟩
      have z4 := hB4.size
      have C4 := C3.trans (hB4.mono C3.size)
      have hI4 := hI3.to hB4 (Nat.le_refl _) z4
      have hJ4 := hJ3.to hB4 (Nat.le_refl _) z4
      have ha4 := r4.ints (B := w4.heap.size) (Nat.le_refl _)
      have e4 := r4.len
      clear hI3 hJ3 hB4 C3 r4
      go_wp2_with fail
      refine (equalSame_any _ _ _ _ _ _ _ _ _ _ ha4 hJ4 (by have := hJ4.len; omega) (by omega)).mono ?_
      rintro e w5 ⟨rfl, hB5⟩
      have z5 := hB5.size
      have C5 := C4.trans (hB5.mono C4.size)
      have hI5 := hI4.to hB5 (Nat.le_refl _) z5
      have hJ5 := hJ4.to hB5 (Nat.le_refl _) z5
      have ha5 := ha4.to hB5 (Nat.le_refl _) z5
      clear hI4 hJ4 ha4 hB5 C4
      go_wp2_with fail
      refine (CountLines_any A1 n c1 zs w5 hI5 (by omega)).mono ?_
      rw [HLn.out]
      rintro e w6 ⟨rfl, hB6⟩
      have z6 := hB6.size
      have C6 := C5.trans (hB6.mono C5.size)
      have hI6 := hI5.to hB6 (Nat.le_refl _) z6
      have hJ6 := hJ5.to hB6 (Nat.le_refl _) z6
      have ha6 := ha5.to hB6 (Nat.le_refl _) z6
      clear hI5 hJ5 ha5 hB6 C5
      go_wp2_with fail
      go_ret
      exact ⟨rfl, C6⟩
  · go_enter Try.func5, Try.ntmps5
    go_wp2
    go_ret
    exact ⟨rfl, Below.refl _ _⟩
end Go.Proofs.Ythjmedbjdjkilaa
