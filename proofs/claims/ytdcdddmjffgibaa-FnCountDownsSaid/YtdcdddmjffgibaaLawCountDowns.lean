/- CountDowns' own law: it turns round, and is the other one, unless there are two pairs. -/
import Derived.Test.YtdcdddmjffgibaaDrCountDowns
import Derived.Test.YtdcdddmjffgibaaDfF
import Derived.Test.YtdcdddmjffgibaaTwS2
import Derived.Test.YtdcdddmjffgibaaGb
import Derived.Test.YtdcdddmjffgibaaSpM
namespace Go.Proofs.Ytdcdddmjffgibaa
open Go.RowKit Go.Shelf

set_option maxRecDepth 100000 in
set_option maxHeartbeats 8000000 in
theorem fnCountDowns_walk (A : Option Addr) (m c : Nat) (bs : List Int) (w : World) (h : Byts w w.heap.size A m bs) (hcap : m ≤ c) :
    Calls Try.prog 12 #[.slice A m c] w fun e w' => e = .returned (.bool true) ∧ Below w.heap.size w w' := by
  by_cases hs : m ≤ 1048576
  · go_enter Try.func12, Try.ntmps12
    go_wp2_with fail
    refine (drawCountDowns_any A m c bs w h hcap (by omega)).mono ?_
    rintro e w1 ⟨A1, n, c1, zs, rfl, hn7, hI1, C1⟩
    have hlen := Lib.hid hI1.len
    cases hv : vo zs
    · have HL := Lib.hid (show downsR zs = -1 by unfold downsR; rw [hv]; rfl)
      clear hv
      go_wp2_with fail
      refine (CountDowns_any A1 n c1 zs w1 hI1 (by omega)).mono ?_
      rw [HL.out]
      rintro e w2 ⟨rfl, hB2⟩
      have z2 := hB2.size
      have C2 := C1.trans (hB2.mono C1.size)
      have hI2 := hI1.to hB2 (Nat.le_refl _) z2
      clear hI1 hB2 C1
      go_wp2_with fail
      refine (specCountDownsF_any A1 n c1 zs w2 hI2 (by omega)).mono ?_
      rw [HL.out]
      rintro e w3 ⟨rfl, hB3⟩
      have z3 := hB3.size
      have C3 := C2.trans (hB3.mono C2.size)
      have hI3 := hI2.to hB3 (Nat.le_refl _) z3
      clear hI2 hB3 C2
      go_wp2_with fail
      refine (specCountDownsF_any A1 n c1 zs w3 hI3 (by omega)).mono ?_
      rw [HL.out]
      rintro e w4 ⟨rfl, hB4⟩
      have z4 := hB4.size
      have C4 := C3.trans (hB4.mono C3.size)
      have hI4 := hI3.to hB4 (Nat.le_refl _) z4
      clear hI3 hB4 C3
      go_wp2_with fail
      go_ret
      exact ⟨rfl, C4⟩
    · have hvo : VoP zs := by simpa [vo] using hv
      have hn6 : n ≤ 6 := by have := hvo.1; rw [hlen.out] at this; exact this
      obtain ⟨K, hK⟩ : ∃ K, (difA (du zs)).length = K := ⟨_, rfl⟩
      have hKn : K ≤ n := by rw [← hK]; have := difA_len (du zs); rw [du_len] at this; rw [hlen.out] at this; exact this
      have HL := Lib.hid (show downsR zs = (K : Int) by unfold downsR; rw [vo_true hvo, if_pos rfl, hK])
      have HV := Lib.hid (show upsR (du zs) = (K : Int) by unfold upsR; rw [vo_true (du_vo hvo), if_pos rfl, hK])
      have HD := Lib.hid (show dualR zs = du zs by unfold dualR; rw [vo_true hvo]; rfl)
      have HT := Lib.hid (show twoR zs = twoB zs by unfold twoR; rw [vo_true hvo]; rfl)
      have HO := Lib.hid (fun (ht : twoB zs = false) => (show upsR zs = (K : Int) by unfold upsR; rw [vo_true hvo, if_pos rfl, ← hK, ups_downs hvo ht]))
      clear hK hv
      go_wp2_with fail
      refine (CountDowns_any A1 n c1 zs w1 hI1 (by omega)).mono ?_
      rw [HL.out]
      rintro e w2 ⟨rfl, hB2⟩
      have z2 := hB2.size
      have C2 := C1.trans (hB2.mono C1.size)
      have hI2 := hI1.to hB2 (Nat.le_refl _) z2
      clear hI1 hB2 C1
      go_wp2_with fail
      refine (specCountDownsF_any A1 n c1 zs w2 hI2 (by omega)).mono ?_
      rw [HL.out]
      rintro e w3 ⟨rfl, hB3⟩
      have z3 := hB3.size
      have C3 := C2.trans (hB3.mono C2.size)
      have hI3 := hI2.to hB3 (Nat.le_refl _) z3
      clear hI2 hB3 C2
      go_wp2_with fail
      refine (DualOf_any A1 n c1 zs w3 hI3 (by omega)).mono ?_
      rintro e w4 ⟨A4, m4, c4, rfl, r4, hB4⟩
      have z4 := hB4.size
      have C4 := C3.trans (hB4.mono C3.size)
      have hI4 := hI3.to hB4 (Nat.le_refl _) z4
      have hd4 := r4.ints (B := w4.heap.size) (Nat.le_refl _)
      have e4 := r4.len
      clear hI3 hB4 C3 r4
      rw [HD.out] at hd4 e4
      rw [du_len, hlen.out] at e4
      subst e4
      go_wp2_with fail
      refine (CountUps_any A4 _ c4 (du zs) w4 hd4 (by omega)).mono ?_
      rw [HV.out]
      rintro e w5 ⟨rfl, hB5⟩
      have z5 := hB5.size
      have C5 := C4.trans (hB5.mono C4.size)
      have hI5 := hI4.to hB5 (Nat.le_refl _) z5
      have hd5 := hd4.to hB5 (Nat.le_refl _) z5
      clear hI4 hd4 hB5 C4
      cases ht : twoB zs
      · have HO2 := Lib.hid (HO.out ht)
        have HT2 := Lib.hid (HT.out.trans ht)
        clear ht
        go_wp2_with fail
        refine (HasTwoPairs_any A1 _ c1 zs w5 hI5 (by omega)).mono ?_
        rw [HT2.out]
        rintro e w6 ⟨rfl, hB6⟩
        have z6 := hB6.size
        have C6 := C5.trans (hB6.mono C5.size)
        have hI6 := hI5.to hB6 (Nat.le_refl _) z6
        have hd6 := hd5.to hB6 (Nat.le_refl _) z6
        clear hI5 hd5 hB6 C5
        go_wp2_with fail
        refine (CountUps_any A1 _ c1 zs w6 hI6 (by omega)).mono ?_
        rw [HO2.out]
        rintro e w7 ⟨rfl, hB7⟩
        have z7 := hB7.size
        have C7 := C6.trans (hB7.mono C6.size)
        have hI7 := hI6.to hB7 (Nat.le_refl _) z7
        have hd7 := hd6.to hB7 (Nat.le_refl _) z7
        clear hI6 hd6 hB7 C6
        go_wp2_with fail
        all_goals first | (exfalso; omega) | skip
        all_goals go_ret
        all_goals exact ⟨ret_bool (by simp; omega), C7⟩
      · have HT2 := Lib.hid (HT.out.trans ht)
        clear ht
        go_wp2_with fail
        refine (HasTwoPairs_any A1 _ c1 zs w5 hI5 (by omega)).mono ?_
        rw [HT2.out]
        rintro e w6 ⟨rfl, hB6⟩
        have z6 := hB6.size
        have C6 := C5.trans (hB6.mono C5.size)
        have hI6 := hI5.to hB6 (Nat.le_refl _) z6
        have hd6 := hd5.to hB6 (Nat.le_refl _) z6
        clear hI5 hd5 hB6 C5
        go_wp2_with fail
        all_goals first | (exfalso; omega) | skip
        all_goals go_ret
        all_goals exact ⟨ret_bool (by simp; omega), C6⟩
  · go_enter Try.func12, Try.ntmps12
    go_wp2
    go_ret
    exact ⟨rfl, Below.refl _ _⟩
end Go.Proofs.Ytdcdddmjffgibaa
