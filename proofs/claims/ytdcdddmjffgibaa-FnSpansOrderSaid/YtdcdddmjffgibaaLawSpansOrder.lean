/- SpansOrder's own law: spans have no two pairs, and the spans of their order are of the same order. -/
import Derived.Test.YtdcdddmjffgibaaDrSpansOrder
import Derived.Test.YtdcdddmjffgibaaSoS
import Derived.Test.YtdcdddmjffgibaaSoL
import Derived.Test.YtdcdddmjffgibaaSpO
import Derived.Test.YtdcdddmjffgibaaGb
import Derived.Test.YtdcdddmjffgibaaEqI
import Derived.Test.YtdcdddmjffgibaaVOrd
namespace Go.Proofs.Ytdcdddmjffgibaa
open Go.RowKit Go.Shelf

set_option maxRecDepth 100000 in
set_option maxHeartbeats 8000000 in
theorem fnSpansOrder_walk (A : Option Addr) (m c : Nat) (bs : List Int) (w : World) (h : Byts w w.heap.size A m bs) (hcap : m ≤ c) :
    Calls Try.prog 9 #[.slice A m c] w fun e w' => e = .returned (.bool true) ∧ Below w.heap.size w w' := by
  by_cases hs : m ≤ 1048576
  · go_enter Try.func9, Try.ntmps9
    go_wp2_with fail
    refine (drawSpansOrder_any A m c bs w h hcap (by omega)).mono ?_
    rintro e w1 ⟨v, rs, rfl, ⟨A1, c1, rfl, hI1, hl1, hr1⟩, C1⟩
    obtain ⟨xs, hxs⟩ : ∃ xs, soR rs = xs := ⟨_, rfl⟩
    have HXS := Lib.hid hxs
    cases hv : soB rs
    · have HS := Lib.hid hv
      have hl0 : xs.length ≤ 6 := by rw [← hxs]; unfold soR; rw [hv]; simp
      clear hv hxs
      go_wp2_with fail
      refine (SpansOrder_any A1 _ c1 rs w1 hI1 hl1 hr1).mono ?_
      rw [HS.out]
      rintro e w2 ⟨A2, m2, c2, rfl, r2, hB2⟩
      have z2 := hB2.size
      have C2 := C1.trans (hB2.mono C1.size)
      have hI2 := hI1.to hB2 (Nat.le_refl _) z2
      clear hI1 hB2 C1
      rw [HXS.out] at r2
      have ha2 := r2.ints (B := w2.heap.size) (Nat.le_refl _)
      have e2 := r2.len
      subst e2
      clear r2
      go_wp2_with fail
      refine (specSpansOrder_any A1 _ c1 rs w2 hI2 hl1).mono ?_
      rw [HS.out]
      rintro e w3 ⟨A3, m3, c3, rfl, r3, hB3⟩
      have z3 := hB3.size
      have C3 := C2.trans (hB3.mono C2.size)
      have hI3 := hI2.to hB3 (Nat.le_refl _) z3
      have ha3 := ha2.to hB3 (Nat.le_refl _) z3
      clear hI2 ha2 hB3 C2
      rw [HXS.out] at r3
      have hb3 := r3.ints (B := w3.heap.size) (Nat.le_refl _)
      have e3 := r3.len
      subst e3
      clear r3
      go_wp2_with fail
      refine (below_quiet (equalInts_any A2 A3 _ c2 _ c3 w3.heap.size w3.heap.size xs xs w3 ha3 hb3 (by omega) (by omega))).mono ?_
      rw [show decide (xs = xs) = true by simp]
      rintro e w4 ⟨rfl, hB4⟩
      have z4 := hB4.size
      have C4 := C3.trans (hB4.mono C3.size)
      have hI4 := hI3.to hB4 (Nat.le_refl _) z4
      have ha4 := ha3.to hB4 (Nat.le_refl _) z4
      have hb4 := hb3.to hB4 (Nat.le_refl _) z4
      clear hI3 ha3 hb3 hB4 C3
      go_wp2_with fail
      refine (below_quiet (equalInts_any A2 A3 _ c2 _ c3 w4.heap.size w4.heap.size xs xs w4 ha4 hb4 (by omega) (by omega))).mono ?_
      rw [show decide (xs = xs) = true by simp]
      rintro e w5 ⟨rfl, hB5⟩
      have z5 := hB5.size
      have C5 := C4.trans (hB5.mono C4.size)
      have hI5 := hI4.to hB5 (Nat.le_refl _) z5
      have ha5 := ha4.to hB5 (Nat.le_refl _) z5
      have hb5 := hb4.to hB5 (Nat.le_refl _) z5
      clear hI4 ha4 hb4 hB5 C4
      go_wp2_with fail
      go_ret
      exact ⟨rfl, C5⟩
    · have HS := Lib.hid hv
      have hxl : soL rs = xs := by rw [← hxs]; unfold soR; rw [hv]; rfl
      have hvo : VoP xs := by rw [← hxl]; exact so_vo hv
      have hnt : twoB xs = false := by rw [← hxl]; exact so_two hv
      have hl0 : xs.length ≤ 6 := hvo.1
      clear hv hxs hxl
      have HVO := Lib.hid (vo_true hvo)
      have HTW := Lib.hid (show twoR xs = false by unfold twoR; rw [hnt, Bool.and_false])
      have hsb : spansB xs = true := by unfold spansB; rw [vo_true hvo, hnt]; rfl
      have HSB := Lib.hid hsb
      obtain ⟨ys, hys, hyl, hyr, hyb, hyo⟩ : ∃ ys, spansR xs = ys ∧ ys.length ≤ 1048576 ∧ (∀ r ∈ ys, r.length ≤ 1048576) ∧ soB ys = true ∧ soR ys = xs := ⟨spR xs, by unfold spansR; rw [hsb, if_pos rfl], by rw [spR_len]; omega, spR_rows xs, spR_so hvo hnt, spR_back hvo hnt⟩
      have HYS := Lib.hid hys
      have HYB := Lib.hid hyb
      have HYO := Lib.hid hyo
      clear hys hyb hyo hsb hnt hvo
      go_wp2_with fail
      refine (SpansOrder_any A1 _ c1 rs w1 hI1 hl1 hr1).mono ?_
      rw [HS.out]
      rintro e w2 ⟨A2, m2, c2, rfl, r2, hB2⟩
      have z2 := hB2.size
      have C2 := C1.trans (hB2.mono C1.size)
      have hI2 := hI1.to hB2 (Nat.le_refl _) z2
      clear hI1 hB2 C1
      rw [HXS.out] at r2
      have ha2 := r2.ints (B := w2.heap.size) (Nat.le_refl _)
      have e2 := r2.len
      subst e2
      clear r2
      go_wp2_with fail
      refine (specSpansOrder_any A1 _ c1 rs w2 hI2 hl1).mono ?_
      rw [HS.out]
      rintro e w3 ⟨A3, m3, c3, rfl, r3, hB3⟩
      have z3 := hB3.size
      have C3 := C2.trans (hB3.mono C2.size)
      have hI3 := hI2.to hB3 (Nat.le_refl _) z3
      have ha3 := ha2.to hB3 (Nat.le_refl _) z3
      clear hI2 ha2 hB3 C2
      rw [HXS.out] at r3
      have hb3 := r3.ints (B := w3.heap.size) (Nat.le_refl _)
      have e3 := r3.len
      subst e3
      clear r3
      go_wp2_with fail
      refine (below_quiet (equalInts_any A2 A3 _ c2 _ c3 w3.heap.size w3.heap.size xs xs w3 ha3 hb3 (by omega) (by omega))).mono ?_
      rw [show decide (xs = xs) = true by simp]
      rintro e w4 ⟨rfl, hB4⟩
      have z4 := hB4.size
      have C4 := C3.trans (hB4.mono C3.size)
      have hI4 := hI3.to hB4 (Nat.le_refl _) z4
      have ha4 := ha3.to hB4 (Nat.le_refl _) z4
      have hb4 := hb3.to hB4 (Nat.le_refl _) z4
      clear hI3 ha3 hb3 hB4 C3
      clear hb4
      go_wp2_with fail
      refine (SpansOf_any A2 _ c2 xs w4 ha4 (by omega)).mono ?_
      rw [HSB.out]
      rintro e w5 ⟨A5, m5, c5, rfl, r5, hB5⟩
      have z5 := hB5.size
      have C5 := C4.trans (hB5.mono C4.size)
      have hI5 := hI4.to hB5 (Nat.le_refl _) z5
      have ha5 := ha4.to hB5 (Nat.le_refl _) z5
      clear hI4 ha4 hB5 C4
      rw [HYS.out] at r5
      have hc5 := r5.ints (B := w5.heap.size) (Nat.le_refl _)
      have e5 := r5.len
      subst e5
      clear r5
      go_wp2_with fail
      refine (SpansOrder_any A5 _ c5 ys w5 hc5 hyl hyr).mono ?_
      rw [HYB.out]
      rintro e w6 ⟨A6, m6, c6, rfl, r6, hB6⟩
      have z6 := hB6.size
      have C6 := C5.trans (hB6.mono C5.size)
      have hI6 := hI5.to hB6 (Nat.le_refl _) z6
      have ha6 := ha5.to hB6 (Nat.le_refl _) z6
      have hc6 := hc5.to hB6 (Nat.le_refl _) z6
      clear hI5 ha5 hc5 hB6 C5
      rw [HYO.out] at r6
      have hd6 := r6.ints (B := w6.heap.size) (Nat.le_refl _)
      have e6 := r6.len
      subst e6
      clear r6
      clear hc6
      go_wp2_with fail
      refine (ValidOrder_any A2 _ c2 xs w6 ha6 (by omega)).mono ?_
      rw [HVO.out]
      rintro e w7 ⟨rfl, hB7⟩
      have z7 := hB7.size
      have C7 := C6.trans (hB7.mono C6.size)
      have hI7 := hI6.to hB7 (Nat.le_refl _) z7
      have ha7 := ha6.to hB7 (Nat.le_refl _) z7
      have hd7 := hd6.to hB7 (Nat.le_refl _) z7
      clear hI6 ha6 hd6 hB7 C6
      go_wp2_with fail
      refine (HasTwoPairs_any A2 _ c2 xs w7 ha7 (by omega)).mono ?_
      rw [HTW.out]
      rintro e w8 ⟨rfl, hB8⟩
      have z8 := hB8.size
      have C8 := C7.trans (hB8.mono C7.size)
      have hI8 := hI7.to hB8 (Nat.le_refl _) z8
      have ha8 := ha7.to hB8 (Nat.le_refl _) z8
      have hd8 := hd7.to hB8 (Nat.le_refl _) z8
      clear hI7 ha7 hd7 hB8 C7
      go_wp2_with fail
      refine (below_quiet (equalInts_any A6 A2 _ c6 _ c2 w8.heap.size w8.heap.size xs xs w8 hd8 ha8 (by omega) (by omega))).mono ?_
      rw [show decide (xs = xs) = true by simp]
      rintro e w9 ⟨rfl, hB9⟩
      have z9 := hB9.size
      have C9 := C8.trans (hB9.mono C8.size)
      have hI9 := hI8.to hB9 (Nat.le_refl _) z9
      have ha9 := ha8.to hB9 (Nat.le_refl _) z9
      have hd9 := hd8.to hB9 (Nat.le_refl _) z9
      clear hI8 ha8 hd8 hB9 C8
      go_wp2_with fail
      go_ret
      exact ⟨rfl, C9⟩
  · go_enter Try.func9, Try.ntmps9
    go_wp2
    go_ret
    exact ⟨rfl, Below.refl _ _⟩
end Go.Proofs.Ytdcdddmjffgibaa
