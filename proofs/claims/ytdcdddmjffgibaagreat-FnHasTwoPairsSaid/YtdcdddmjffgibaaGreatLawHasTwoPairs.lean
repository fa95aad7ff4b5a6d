/- HasTwoPairs' own law: two pairs are no spans. -/
import Derived.Test.YtdcdddmjffgibaaGreatDrHasTwoPairs
import Derived.Test.YtdcdddmjffgibaaGreatTwS2
import Derived.Test.YtdcdddmjffgibaaGreatTwP
import Derived.Test.YtdcdddmjffgibaaGreatTwO
import Derived.Test.YtdcdddmjffgibaaGreatSpI
import Derived.Test.YtdcdddmjffgibaaGreatWideI
import Derived.Test.YtdcdddmjffgibaaGreatGa
set_option linter.unusedVariables false
set_option linter.unusedSimpArgs false
namespace Go.Proofs.YtdcdddmjffgibaaGreat
open Go.RowKit Go.Shelf

set_option maxRecDepth 100000 in
set_option maxHeartbeats 8000000 in
theorem fnHasTwoPairs_walk (A : Option Addr) (m c : Nat) (bs : List Int) (w : World) (h : Byts w w.heap.size A m bs) (hcap : m ≤ c) :
    Calls Tryz.prog 3 #[.slice A m c] w fun e w' => e = .returned (.bool true) ∧ Below w.heap.size w w' := by
  by_cases hs : m ≤ 1048576
  · go_enter Tryz.func3, Tryz.ntmps3
    go_wp2_with fail
    refine (drawHasTwoPairs_any A m c bs w h hcap (by omega)).mono ?_
    rintro e w1 ⟨A1, n, c1, zs, rfl, hn7, hI1, C1⟩
    have hlen := Lib.hid hI1.len
    cases hv : twoR zs
    · have HL := Lib.hid hv
      clear hv
      go_wp2_with fail
      refine (HasTwoPairs_any A1 n c1 zs w1 hI1 (by omega)).mono ?_
      rw [HL.out]
      rintro e w2 ⟨rfl, hB2⟩
      have z2 := hB2.size
      have C2 := C1.trans (hB2.mono C1.size)
      have hI2 := hI1.to hB2 (Nat.le_refl _) z2
      clear hI1 hB2 C1
      go_wp2_with fail
      refine (specHasTwoPairsF_any A1 n c1 zs w2 hI2 (by omega)).mono ?_
      rw [HL.out]
      rintro e w3 ⟨rfl, hB3⟩
      have z3 := hB3.size
      have C3 := C2.trans (hB3.mono C2.size)
      have hI3 := hI2.to hB3 (Nat.le_refl _) z3
      clear hI2 hB3 C2
      go_wp2_with fail
      refine (specHasTwoPairsF_any A1 n c1 zs w3 hI3 (by omega)).mono ?_
      rw [HL.out]
      rintro e w4 ⟨rfl, hB4⟩
      have z4 := hB4.size
      have C4 := C3.trans (hB4.mono C3.size)
      have hI4 := hI3.to hB4 (Nat.le_refl _) z4
      clear hI3 hB4 C3
      go_wp2_with fail
      go_ret
      exact ⟨rfl, C4⟩
    · obtain ⟨hvo, hlb⟩ : VoP zs ∧ twoB zs = true := by unfold twoR at hv; rw [Bool.and_eq_true] at hv; exact ⟨by simpa [vo] using hv.1, hv.2⟩
      have HL := Lib.hid hv
      clear hv
      have hn6 : n ≤ 6 := by have := hvo.1; rw [hlen.out] at this; exact this
      have HD := Lib.hid (show dualR zs = du zs by unfold dualR; rw [vo_true hvo]; rfl)
      have HV := Lib.hid (show twoR (du zs) = true by unfold twoR; rw [vo_true (du_vo hvo), du_two hvo, hlb]; rfl)
      have HS := Lib.hid (show spansB zs = false by unfold spansB; rw [hlb, Bool.not_true, Bool.and_false])
      have hw2 := (two_wide hvo hlb).1
      have hn4 : 4 ≤ n := by have := (two_wide hvo hlb).2; rw [hlen.out] at this; exact this
      generalize hwi : wideR zs = wi at hw2
      have HWi := Lib.hid hwi
      clear hwi
      go_wp2_with fail
      refine (HasTwoPairs_any A1 n c1 zs w1 hI1 (by omega)).mono ?_
      rw [HL.out]
      rintro e w2 ⟨rfl, hB2⟩
      have z2 := hB2.size
      have C2 := C1.trans (hB2.mono C1.size)
      have hI2 := hI1.to hB2 (Nat.le_refl _) z2
      clear hI1 hB2 C1
      go_wp2_with fail
      refine (specHasTwoPairsF_any A1 n c1 zs w2 hI2 (by omega)).mono ?_
      rw [HL.out]
      rintro e w3 ⟨rfl, hB3⟩
      have z3 := hB3.size
      have C3 := C2.trans (hB3.mono C2.size)
      have hI3 := hI2.to hB3 (Nat.le_refl _) z3
      clear hI2 hB3 C2
      go_wp2_with fail
      refine (SpansOf_any A1 n c1 zs w3 hI3 (by omega)).mono ?_
      rw [HS.out]
      rintro e w4 ⟨A4, m4, c4, rfl, r4, hB4⟩
      have z4 := hB4.size
      have C4 := C3.trans (hB4.mono C3.size)
      have hI4 := hI3.to hB4 (Nat.le_refl _) z4
      clear hI3 hB4 C3
      clear r4
      go_wp2_with fail
      refine (DualOf_any A1 n c1 zs w4 hI4 (by omega)).mono ?_
      rintro e w5 ⟨A5, m5, c5, rfl, r5, hB5⟩
      have z5 := hB5.size
      have C5 := C4.trans (hB5.mono C4.size)
      have hI5 := hI4.to hB5 (Nat.le_refl _) z5
      have hd5 := r5.ints (B := w5.heap.size) (Nat.le_refl _)
      have e5 := r5.len
      clear hI4 hB5 C4 r5
      rw [HD.out] at hd5 e5
      rw [du_len, hlen.out] at e5
      subst e5
      go_wp2_with fail
      refine (HasTwoPairs_any A5 _ c5 (du zs) w5 hd5 (by omega)).mono ?_
      rw [HV.out]
      rintro e w6 ⟨rfl, hB6⟩
      have z6 := hB6.size
      have C6 := C5.trans (hB6.mono C5.size)
      have hI6 := hI5.to hB6 (Nat.le_refl _) z6
      have hd6 := hd5.to hB6 (Nat.le_refl _) z6
      clear hI5 hd5 hB6 C5
      go_wp2_with fail
      refine (WidestApart_any A1 _ c1 zs w6 hI6 (by omega)).mono ?_
      rw [HWi.out]
      rintro e w7 ⟨rfl, hB7⟩
      have z7 := hB7.size
      have C7 := C6.trans (hB7.mono C6.size)
      have hI7 := hI6.to hB7 (Nat.le_refl _) z7
      have hd7 := hd6.to hB7 (Nat.le_refl _) z7
      clear hI6 hd6 hB7 C6
      go_wp2_with fail
      go_ret
      exact ⟨ret_bool (by simp; omega), C7⟩
  · go_enter Tryz.func3, Tryz.ntmps3
    go_wp2
    go_ret
    exact ⟨rfl, Below.refl _ _⟩
end Go.Proofs.YtdcdddmjffgibaaGreat
