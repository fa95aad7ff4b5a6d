/- CountLines' own law: the last rank has a line, the one behind it none, and the order turned round has as many. -/
import Derived.Test.YthjmedbjdjkilaaDrCountLines
import Derived.Test.YthjmedbjdjkilaaCntI
import Derived.Test.YthjmedbjdjkilaaGc
import Derived.Test.YthjmedbjdjkilaaGd
import Derived.Test.YthjmedbjdjkilaaGa
namespace Go.Proofs.Ythjmedbjdjkilaa
open Go.RowKit Go.Shelf

set_option maxRecDepth 100000 in
set_option maxHeartbeats 8000000 in
theorem fnCountLines_walk (A : Option Addr) (m c : Nat) (bs : List Int) (w : World) (h : Byts w w.heap.size A m bs) (hcap : m ≤ c) :
    Calls Try.prog 3 #[.slice A m c] w fun e w' => e = .returned (.bool true) ∧ Below w.heap.size w w' := by
  by_cases hs : m ≤ 1048576
  · go_enter Try.func3, Try.ntmps3
    go_wp2_with fail
    refine (drawCountLines_any A m c bs w h hcap (by omega)).mono ?_
    rintro e w1 ⟨A1, n, c1, zs, rfl, hn7, hI1, C1⟩
    have hlen := Lib.hid hI1.len
    cases hv : vo zs
    · have HL := Lib.hid (show linesR zs = -1 by unfold linesR; rw [hv]; rfl)
      clear hv
      go_wp2_with fail
      refine (CountLines_any A1 n c1 zs w1 hI1 (by omega)).mono ?_
      rw [HL.out]
      rintro e w2 ⟨rfl, hB2⟩
      have z2 := hB2.size
      have C2 := C1.trans (hB2.mono C1.size)
      have hI2 := hI1.to hB2 (Nat.le_refl _) z2
      clear hI1 hB2 C1
      go_wp2_with fail
      refine (specCountLinesF_any A1 n c1 zs w2 hI2 (by omega)).mono ?_
      rw [HL.out]
      rintro e w3 ⟨rfl, hB3⟩
      have z3 := hB3.size
      have C3 := C2.trans (hB3.mono C2.size)
      have hI3 := hI2.to hB3 (Nat.le_refl _) z3
      clear hI2 hB3 C2
      go_wp2_with fail
      refine (specCountLinesF_any A1 n c1 zs w3 hI3 (by omega)).mono ?_
      rw [HL.out]
      rintro e w4 ⟨rfl, hB4⟩
      have z4 := hB4.size
      have C4 := C3.trans (hB4.mono C3.size)
      have hI4 := hI3.to hB4 (Nat.le_refl _) z4
      clear hI3 hB4 C3
      go_wp2_with fail
      go_ret
      exact ⟨rfl, C4⟩
    · skip
      have hvo : VoP zs := by simpa [vo] using hv
      have Hv := Lib.hid hv
      clear hv
      have hn6 : n ≤ 6 := by have := hvo.1; rw [hlen.out] at this; exact this
      have HD := Lib.hid (show dualR zs = du zs by unfold dualR; rw [Hv.out]; rfl)
      have HDN := Lib.hid (du_len zs)
      obtain ⟨F, hF1, hF2, hL, hLd, hH1, hH2⟩ := lines_facts hvo
      have HL := Lib.hid hL
      have HLd := Lib.hid hLd
      have HH1 := Lib.hid hH1
      have HH2 := Lib.hid hH2
      clear hL hLd hH1 hH2
      go_wp2_with fail
      refine (CountLines_any A1 n c1 zs w1 hI1 (by omega)).mono ?_
      rw [HL.out]
      rintro e w2 ⟨rfl, hB2⟩
      have z2 := hB2.size
      have C2 := C1.trans (hB2.mono C1.size)
      have hI2 := hI1.to hB2 (Nat.le_refl _) z2
      clear hI1 hB2 C1
      go_wp2_with fail
      refine (specCountLinesF_any A1 n c1 zs w2 hI2 (by omega)).mono ?_
      rw [HL.out]
      rintro e w3 ⟨rfl, hB3⟩
      have z3 := hB3.size
      have C3 := C2.trans (hB3.mono C2.size)
      have hI3 := hI2.to hB3 (Nat.le_refl _) z3
      clear hI2 hB3 C2
      go_wp2_with fail
      refine (LineAt_any A1 n c1 zs ((F : Int) - 1) w3 hI3 (by omega)).mono ?_
      rw [HH1.out]
      rintro e w4 ⟨A4, m4, c4, rfl, r4, hB4⟩
      have z4 := hB4.size
      have C4 := C3.trans (hB4.mono C3.size)
      have hI4 := hI3.to hB4 (Nat.le_refl _) z4
      have ha4 := r4.ints (B := w4.heap.size) (Nat.le_refl _)
      have e4 := r4.len
      clear hI3 hB4 C3 r4
      go_wp2_with fail
      refine (LineAt_any A1 n c1 zs (F : Int) w4 hI4 (by omega)).mono ?_
      rw [HH2.out]
      rintro e w5 ⟨A5, m5, c5, rfl, r5, hB5⟩
      have z5 := hB5.size
      have C5 := C4.trans (hB5.mono C4.size)
      have hI5 := hI4.to hB5 (Nat.le_refl _) z5
      have ha5 := ha4.to hB5 (Nat.le_refl _) z5
      have hb5 := r5.ints (B := w5.heap.size) (Nat.le_refl _)
      have e5 := r5.len
      clear hI4 ha4 hB5 C4 r5
      go_wp2_with fail
      refine (DualOf_any A1 n c1 zs w5 hI5 (by omega)).mono ?_
      rintro e w6 ⟨A6, m6, c6, rfl, r6, hB6⟩
      have z6 := hB6.size
      have C6 := C5.trans (hB6.mono C5.size)
      have hI6 := hI5.to hB6 (Nat.le_refl _) z6
      have ha6 := ha5.to hB6 (Nat.le_refl _) z6
      have hb6 := hb5.to hB6 (Nat.le_refl _) z6
      have hd6 := r6.ints (B := w6.heap.size) (Nat.le_refl _)
      have e6 := r6.len
      clear hI5 ha5 hb5 hB6 C5 r6
      rw [HD.out] at hd6 e6
      rw [HDN.out, hlen.out] at e6
      subst e6
      go_wp2_with fail
      refine (CountLines_any A6 _ c6 (du zs) w6 hd6 (by omega)).mono ?_
      rw [HLd.out]
      rintro e w7 ⟨rfl, hB7⟩
      have z7 := hB7.size
      have C7 := C6.trans (hB7.mono C6.size)
      have hI7 := hI6.to hB7 (Nat.le_refl _) z7
      have ha7 := ha6.to hB7 (Nat.le_refl _) z7
      have hb7 := hb6.to hB7 (Nat.le_refl _) z7
      have hd7 := hd6.to hB7 (Nat.le_refl _) z7
      clear hI6 ha6 hb6 hd6 hB7 C6
      go_wp2_with fail
      go_ret
      exact ⟨ret_bool (decide_eq_true (by omega)), C7⟩
  · go_enter Try.func3, Try.ntmps3
    go_wp2
    go_ret
    exact ⟨rfl, Below.refl _ _⟩
end Go.Proofs.Ythjmedbjdjkilaa
