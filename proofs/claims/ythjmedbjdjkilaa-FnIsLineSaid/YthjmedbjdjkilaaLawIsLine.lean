/- IsLine's own law: a line is the one of its rank, and backwards it is one of the order turned round. -/
import Derived.Test.YthjmedbjdjkilaaDrIsLine
import Derived.Test.YthjmedbjdjkilaaLatI
import Derived.Test.YthjmedbjdjkilaaIsLineS
import Derived.Test.YthjmedbjdjkilaaRkPos
import Derived.Test.YthjmedbjdjkilaaRankI
import Derived.Test.YthjmedbjdjkilaaEqI
import Derived.Test.YthjmedbjdjkilaaBackw
import Derived.Test.YthjmedbjdjkilaaGa
namespace Go.Proofs.Ythjmedbjdjkilaa
open Go.RowKit Go.Shelf

set_option maxRecDepth 100000 in
set_option maxHeartbeats 8000000 in
theorem fnIsLine_walk (A : Option Addr) (m c : Nat) (bs : List Int) (w : World) (h : Byts w w.heap.size A m bs) (hcap : m ≤ c) :
    Calls Try.prog 4 #[.slice A m c] w fun e w' => e = .returned (.bool true) ∧ Below w.heap.size w w' := by
  by_cases hs : m ≤ 1048576
  · go_enter Try.func4, Try.ntmps4
    go_wp2_with fail
    refine (drawIsLine_any A m c bs w h hcap (by omega)).mono ?_
    rintro e w1 ⟨A1, n, c1, zs, A9, m9, c9, ls, rfl, hn7, hm7, hI1, hJ1, C1⟩
    have hlen := Lib.hid hI1.len
    cases hv : isLineR zs ls
    · have HL := Lib.hid hv
      clear hv
      go_wp2_with fail
      refine (IsLine_any A1 n c1 zs A9 m9 c9 ls w1 hI1 hJ1 (by omega) (by omega)).mono ?_
      rw [HL.out]
      rintro e w2 ⟨rfl, hB2⟩
      have z2 := hB2.size
      have C2 := C1.trans (hB2.mono C1.size)
      have hI2 := hI1.to hB2 (Nat.le_refl _) z2
      have hJ2 := hJ1.to hB2 (Nat.le_refl _) z2
      clear hI1 hJ1 hB2 C1
      go_wp2_with fail
      refine (specIsLineF_any A1 n c1 zs A9 m9 c9 ls w2 hI2 hJ2 (by omega) (by omega)).mono ?_
      rw [HL.out]
      rintro e w3 ⟨rfl, hB3⟩
      have z3 := hB3.size
      have C3 := C2.trans (hB3.mono C2.size)
      have hI3 := hI2.to hB3 (Nat.le_refl _) z3
      have hJ3 := hJ2.to hB3 (Nat.le_refl _) z3
      clear hI2 hJ2 hB3 C2
      go_wp2_with fail
      refine (specIsLineF_any A1 n c1 zs A9 m9 c9 ls w3 hI3 hJ3 (by omega) (by omega)).mono ?_
      rw [HL.out]
      rintro e w4 ⟨rfl, hB4⟩
      have z4 := hB4.size
      have C4 := C3.trans (hB4.mono C3.size)
      have hI4 := hI3.to hB4 (Nat.le_refl _) z4
      have hJ4 := hJ3.to hB4 (Nat.le_refl _) z4
      clear hI3 hJ3 hB4 C3
      go_wp2_with fail
      go_ret
      exact ⟨rfl, C4⟩
    · obtain ⟨Q, F, hQF, hF, hR, hLn, hH, hA, hml⟩ := rank_facts hv
      have HL := Lib.hid hv
      have HBk := Lib.hid (back_fact hv)
      have HD := Lib.hid (dual_fact hv)
      have HDN := Lib.hid (du_len zs)
      clear hv
      have HR := Lib.hid hR
      have HH := Lib.hid hH
      have HA := Lib.hid hA
      clear hR hLn hH hA
      go_wp2_with fail
      refine (IsLine_any A1 n c1 zs A9 m9 c9 ls w1 hI1 hJ1 (by omega) (by omega)).mono ?_
      rw [HL.out]
      rintro e w2 ⟨rfl, hB2⟩
      have z2 := hB2.size
      have C2 := C1.trans (hB2.mono C1.size)
      have hI2 := hI1.to hB2 (Nat.le_refl _) z2
      have hJ2 := hJ1.to hB2 (Nat.le_refl _) z2
      clear hI1 hJ1 hB2 C1
      go_wp2_with fail
      refine (specIsLineF_any A1 n c1 zs A9 m9 c9 ls w2 hI2 hJ2 (by omega) (by omega)).mono ?_
      rw [HL.out]
      rintro e w3 ⟨rfl, hB3⟩
      have z3 := hB3.size
      have C3 := C2.trans (hB3.mono C2.size)
      have hI3 := hI2.to hB3 (Nat.le_refl _) z3
      have hJ3 := hJ2.to hB3 (Nat.le_refl _) z3
      clear hI2 hJ2 hB3 C2
      go_wp2_with fail
      refine (LineRank_any A1 n c1 zs A9 m9 c9 ls w3 hI3 hJ3 (by omega) (by omega)).mono ?_
      rw [HR.out]
      rintro e w4 ⟨rfl, hB4⟩
      have z4 := hB4.size
      have C4 := C3.trans (hB4.mono C3.size)
      have hI4 := hI3.to hB4 (Nat.le_refl _) z4
      have hJ4 := hJ3.to hB4 (Nat.le_refl _) z4
      clear hI3 hJ3 hB4 C3
      go_wp2_with fail
      refine (LineAt_any A1 n c1 zs (Q : Int) w4 hI4 (by omega)).mono ?_
      rw [HH.out, HA.out]
      rintro e w5 ⟨A5, m5, c5, rfl, r5, hB5⟩
      have z5 := hB5.size
      have C5 := C4.trans (hB5.mono C4.size)
      have hI5 := hI4.to hB5 (Nat.le_refl _) z5
      have hJ5 := hJ4.to hB5 (Nat.le_refl _) z5
      have ha5 := r5.ints (B := w5.heap.size) (Nat.le_refl _)
      have e5 := r5.len
      clear hI4 hJ4 hB5 C4 r5
      go_wp2_with fail
      refine (equalSame_any _ _ _ _ _ _ _ _ _ _ ha5 hJ5 (by have := hJ5.len; omega) (by omega)).mono ?_
      rintro e w6 ⟨rfl, hB6⟩
      have z6 := hB6.size
      have C6 := C5.trans (hB6.mono C5.size)
      have hI6 := hI5.to hB6 (Nat.le_refl _) z6
      have hJ6 := hJ5.to hB6 (Nat.le_refl _) z6
      have ha6 := ha5.to hB6 (Nat.le_refl _) z6
      clear hI5 hJ5 ha5 hB6 C5
      go_wp2_with fail
      refine (DualOf_any A1 n c1 zs w6 hI6 (by omega)).mono ?_
      rintro e w7 ⟨A7, m7, c7, rfl, r7, hB7⟩
      have z7 := hB7.size
      have C7 := C6.trans (hB7.mono C6.size)
      have hI7 := hI6.to hB7 (Nat.le_refl _) z7
      have hJ7 := hJ6.to hB7 (Nat.le_refl _) z7
      have ha7 := ha6.to hB7 (Nat.le_refl _) z7
      have hd7 := r7.ints (B := w7.heap.size) (Nat.le_refl _)
      have e7 := r7.len
      clear hI6 hJ6 ha6 hB7 C6 r7
      rw [HD.out] at hd7 e7
      rw [HDN.out, hlen.out] at e7
      subst e7
      go_wp2_with fail
      refine (backwards_any A9 m9 c9 ls w7 hJ7 (by omega)).mono ?_
      rintro e w8 ⟨A8, m8, c8, rfl, r8, hB8⟩
      have z8 := hB8.size
      have C8 := C7.trans (hB8.mono C7.size)
      have hI8 := hI7.to hB8 (Nat.le_refl _) z8
      have hJ8 := hJ7.to hB8 (Nat.le_refl _) z8
      have ha8 := ha7.to hB8 (Nat.le_refl _) z8
      have hd8 := hd7.to hB8 (Nat.le_refl _) z8
      have hb8 := r8.ints (B := w8.heap.size) (Nat.le_refl _)
      have e8 := r8.len
      clear hI7 hJ7 ha7 hd7 hB8 C7 r8
      rw [List.length_reverse] at e8
      go_wp2_with fail
      refine (IsLine_any A7 _ c7 (du zs) A8 _ c8 ls.reverse w8 hd8 hb8 (by omega) (by have := hJ8.len; omega)).mono ?_
      rw [HBk.out]
      rintro e w9 ⟨rfl, hB9⟩
      have z9 := hB9.size
      have C9 := C8.trans (hB9.mono C8.size)
      have hI9 := hI8.to hB9 (Nat.le_refl _) z9
      have hJ9 := hJ8.to hB9 (Nat.le_refl _) z9
      have ha9 := ha8.to hB9 (Nat.le_refl _) z9
      have hd9 := hd8.to hB9 (Nat.le_refl _) z9
      have hb9 := hb8.to hB9 (Nat.le_refl _) z9
      clear hI8 hJ8 ha8 hd8 hb8 hB9 C8
      go_wp2_with fail
      go_ret
      exact ⟨rfl, C9⟩
  · go_enter Try.func4, Try.ntmps4
    go_wp2
    go_ret
    exact ⟨rfl, Below.refl _ _⟩
end Go.Proofs.Ythjmedbjdjkilaa
