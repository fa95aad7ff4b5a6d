/- MeetOf's own law. -/
import Derived.Test.YtmlihbcffndnbabDoorDrMeetOf
import Derived.Test.YtmlihbcffndnbabDoorGxg
import Derived.Test.YtmlihbcffndnbabDoorGxe
import Derived.Test.YtmlihbcffndnbabDoorGc
import Derived.Test.YtmlihbcffndnbabDoorGa
set_option linter.unusedVariables false
set_option linter.unusedSimpArgs false
namespace Go.Proofs.YtmlihbcffndnbabDoor
open Go.RowKit Go.Shelf

set_option maxRecDepth 100000 in
set_option maxHeartbeats 8000000 in
theorem fnMeetOf_walk (A : Option Addr) (m c : Nat) (bs : List Int) (w : World) (h : Byts w w.heap.size A m bs) (hcap : m ≤ c) (hE : Et w) :
    Calls Tryd.prog 8 #[.slice A m c] w fun e w' => e = .returned (.bool true) ∧ Below w.heap.size w w' := by
  by_cases hs : m ≤ 1048576
  · go_enter Tryd.func8, Tryd.ntmps8
    go_wp2_with fail
    refine (drawMeetOf_any A m c bs w h hcap (by omega)).mono ?_
    rintro e w1 ⟨A1, n, c1, zs, a, b, rfl, hn7, hI1, C1⟩
    have hlen := Lib.hid hI1.len
    obtain ⟨J, hJ⟩ : ∃ J, meetR zs a b = J := ⟨_, rfl⟩
    by_cases hJ0 : J < 0
    · have HL := Lib.hid hJ
      clear hJ
      go_wp2_with fail
      refine (MeetOf_any A1 n c1 zs a b w1 hI1 (by omega) (hE.below C1 hE.2)).mono ?_
      rw [HL.out]
      rintro e w2 ⟨rfl, hB2⟩
      have z2 := hB2.size
      have C2 := C1.trans (hB2.mono C1.size)
      have hI2 := hI1.to hB2 (Nat.le_refl _) z2
      clear hI1 hB2 C1
      go_wp2_with fail
      refine (specMeetOfF_any A1 n c1 zs a b w2 hI2 (by omega)).mono ?_
      rw [HL.out]
      rintro e w3 ⟨rfl, hB3⟩
      have z3 := hB3.size
      have C3 := C2.trans (hB3.mono C2.size)
      have hI3 := hI2.to hB3 (Nat.le_refl _) z3
      clear hI2 hB3 C2
      go_wp2_with fail
      refine (specMeetOfF_any A1 n c1 zs a b w3 hI3 (by omega)).mono ?_
      rw [HL.out]
      rintro e w4 ⟨rfl, hB4⟩
      have z4 := hB4.size
      have C4 := C3.trans (hB4.mono C3.size)
      have hI4 := hI3.to hB4 (Nat.le_refl _) z4
      clear hI3 hB4 C3
      go_wp2_with fail
      go_ret
      exact ⟨rfl, C4⟩
    · obtain ⟨hvo, x, y, z, rfl, rfl, rfl, hx, hy, hj⟩ := join_parts (zs := zs) (ds := (du zs)) (a := a) (b := b) (J := J) hJ (by omega)
      have HL := Lib.hid hJ
      clear hJ hJ0
      have hn6 : n ≤ 6 := by have := hvo.1; rw [hlen.out] at this; exact this
      have HD := Lib.hid (show dualR zs = du zs by unfold dualR; rw [vo_true hvo]; rfl)
      obtain ⟨hz, b1, b2⟩ := join_bits hj
      have HS := Lib.hid (show meetR zs y x = z by rw [meetR_cast hvo hy hx, join_swap]; exact hj)
      have HO := Lib.hid (show joinR (du zs) x y = z by rw [joinR_cast (du_vo hvo) (by rw [du_len]; exact hx) (by rw [du_len]; exact hy)]; exact hj)
      rw [du_len] at hz
      rw [hlen.out] at hx hy hz
      have zx := hvo.bd x (by rw [hlen.out]; exact hx)
      have zy := hvo.bd y (by rw [hlen.out]; exact hy)
      have zz := hvo.bd z (by rw [hlen.out]; exact hz)
      go_wp2_with fail
      refine (MeetOf_any A1 n c1 zs x y w1 hI1 (by omega) (hE.below C1 hE.2)).mono ?_
      rw [HL.out]
      rintro e w2 ⟨rfl, hB2⟩
      have z2 := hB2.size
      have C2 := C1.trans (hB2.mono C1.size)
      have hI2 := hI1.to hB2 (Nat.le_refl _) z2
      clear hI1 hB2 C1
      go_wp2_with fail
      refine (specMeetOfF_any A1 n c1 zs x y w2 hI2 (by omega)).mono ?_
      rw [HL.out]
      rintro e w3 ⟨rfl, hB3⟩
      have z3 := hB3.size
      have C3 := C2.trans (hB3.mono C2.size)
      have hI3 := hI2.to hB3 (Nat.le_refl _) z3
      clear hI2 hB3 C2
      have hnn : decide ((z : Int) < 0) = false := decide_eq_false (by omega)
      by_cases h1 : z = x
      · have q1 : ((z : Int) == (x : Int)) = true := by rw [h1]; simp
        clear h1
        by_cases h2 : z = y
        · have q2 : ((z : Int) == (y : Int)) = true := by rw [h2]; simp
          clear h2
          clear hj b1 b2
          go_wp2_with fail
          refine (MeetOf_any A1 n c1 zs y x w3 hI3 (by omega) (hE.below C3 hE.2)).mono ?_
          rw [HS.out]
          rintro e w4 ⟨rfl, hB4⟩
          have z4 := hB4.size
          have C4 := C3.trans (hB4.mono C3.size)
          have hI4 := hI3.to hB4 (Nat.le_refl _) z4
          clear hI3 hB4 C3
          go_wp2_with fail
          refine (DualOf_any A1 n c1 zs w4 hI4 (by omega)).mono ?_
          rintro e w5 ⟨A5, m5, c5, rfl, r5, hB5⟩
          have z5 := hB5.size
          have C5 := C4.trans (hB5.mono C4.size)
          have hI5 := hI4.to hB5 (Nat.le_refl _) z5
          have hd5 := r5.ints (B := w5.heap.size) (Nat.le_refl _)
          have e5 := r5.len
          clear hI4 hB5 C4 r5
          rw [HD.out] at hd5 e5
          rw [du_len, hlen.out] at e5
          subst e5
          go_wp2_with fail
          refine (JoinOf_any A5 _ c5 (du zs) x y w5 hd5 (by omega) (hE.below C5 hE.2)).mono ?_
          rw [HO.out]
          rintro e w6 ⟨rfl, hB6⟩
          have z6 := hB6.size
          have C6 := C5.trans (hB6.mono C5.size)
          have hI6 := hI5.to hB6 (Nat.le_refl _) z6
          have hd6 := hd5.to hB6 (Nat.le_refl _) z6
          clear hI5 hd5 hB6 C5
          go_wp2_with fail
          go_ret
          exact ⟨rfl, C6⟩
        · have q2 : ((z : Int) == (y : Int)) = false := by simpa using (show ¬ (z : Int) = (y : Int) by omega)
          have hbv2 : bitB (zs[z]?.getD 0) y = true := by have := at_or b2 h2; rwa [du_bit hvo.sets] at this
          have hbb2 := fun w => hasBit_any (zs[z]?.getD 0) (y : Int) w (by omega) (by omega) (by omega) (by omega)
          rw [hbv2] at hbb2
          clear hj b1 b2
          obtain ⟨bl, off, rfl, -, hc⟩ := hI3.at_ hz
          have hckx := hc z hz
          have hcky := hc z hz
          clear hc
          go_wp2_with fail
          refine (hbb2 _).mono ?_
          rintro e wq ⟨rfl, rfl⟩
          clear hckx hcky
          go_wp2_with fail
          refine (MeetOf_any _ n c1 zs y x w3 hI3 (by omega) (hE.below C3 hE.2)).mono ?_
          rw [HS.out]
          rintro e w4 ⟨rfl, hB4⟩
          have z4 := hB4.size
          have C4 := C3.trans (hB4.mono C3.size)
          have hI4 := hI3.to hB4 (Nat.le_refl _) z4
          clear hI3 hB4 C3
          go_wp2_with fail
          refine (DualOf_any _ n c1 zs w4 hI4 (by omega)).mono ?_
          rintro e w5 ⟨A5, m5, c5, rfl, r5, hB5⟩
          have z5 := hB5.size
          have C5 := C4.trans (hB5.mono C4.size)
          have hI5 := hI4.to hB5 (Nat.le_refl _) z5
          have hd5 := r5.ints (B := w5.heap.size) (Nat.le_refl _)
          have e5 := r5.len
          clear hI4 hB5 C4 r5
          rw [HD.out] at hd5 e5
          rw [du_len, hlen.out] at e5
          subst e5
          go_wp2_with fail
          refine (JoinOf_any A5 _ c5 (du zs) x y w5 hd5 (by omega) (hE.below C5 hE.2)).mono ?_
          rw [HO.out]
          rintro e w6 ⟨rfl, hB6⟩
          have z6 := hB6.size
          have C6 := C5.trans (hB6.mono C5.size)
          have hI6 := hI5.to hB6 (Nat.le_refl _) z6
          have hd6 := hd5.to hB6 (Nat.le_refl _) z6
          clear hI5 hd5 hB6 C5
          go_wp2_with fail
          go_ret
          exact ⟨rfl, C6⟩
      · have q1 : ((z : Int) == (x : Int)) = false := by simpa using (show ¬ (z : Int) = (x : Int) by omega)
        by_cases h2 : z = y
        · have q2 : ((z : Int) == (y : Int)) = true := by rw [h2]; simp
          clear h2
          have hbv1 : bitB (zs[z]?.getD 0) x = true := by have := at_or b1 h1; rwa [du_bit hvo.sets] at this
          have hbb1 := fun w => hasBit_any (zs[z]?.getD 0) (x : Int) w (by omega) (by omega) (by omega) (by omega)
          rw [hbv1] at hbb1
          clear hj b1 b2
          obtain ⟨bl, off, rfl, -, hc⟩ := hI3.at_ hz
          have hckx := hc z hz
          have hcky := hc z hz
          clear hc
          go_wp2_with fail
          refine (hbb1 _).mono ?_
          rintro e wq ⟨rfl, rfl⟩
          clear hckx hcky
          go_wp2_with fail
          refine (MeetOf_any _ n c1 zs y x w3 hI3 (by omega) (hE.below C3 hE.2)).mono ?_
          rw [HS.out]
          rintro e w4 ⟨rfl, hB4⟩
          have z4 := hB4.size
          have C4 := C3.trans (hB4.mono C3.size)
          have hI4 := hI3.to hB4 (Nat.le_refl _) z4
          clear hI3 hB4 C3
          go_wp2_with fail
          refine (DualOf_any _ n c1 zs w4 hI4 (by omega)).mono ?_
          rintro e w5 ⟨A5, m5, c5, rfl, r5, hB5⟩
          have z5 := hB5.size
          have C5 := C4.trans (hB5.mono C4.size)
          have hI5 := hI4.to hB5 (Nat.le_refl _) z5
          have hd5 := r5.ints (B := w5.heap.size) (Nat.le_refl _)
          have e5 := r5.len
          clear hI4 hB5 C4 r5
          rw [HD.out] at hd5 e5
          rw [du_len, hlen.out] at e5
          subst e5
          go_wp2_with fail
          refine (JoinOf_any A5 _ c5 (du zs) x y w5 hd5 (by omega) (hE.below C5 hE.2)).mono ?_
          rw [HO.out]
          rintro e w6 ⟨rfl, hB6⟩
          have z6 := hB6.size
          have C6 := C5.trans (hB6.mono C5.size)
          have hI6 := hI5.to hB6 (Nat.le_refl _) z6
          have hd6 := hd5.to hB6 (Nat.le_refl _) z6
          clear hI5 hd5 hB6 C5
          go_wp2_with fail
          go_ret
          exact ⟨rfl, C6⟩
        · have q2 : ((z : Int) == (y : Int)) = false := by simpa using (show ¬ (z : Int) = (y : Int) by omega)
          have hbv1 : bitB (zs[z]?.getD 0) x = true := by have := at_or b1 h1; rwa [du_bit hvo.sets] at this
          have hbb1 := fun w => hasBit_any (zs[z]?.getD 0) (x : Int) w (by omega) (by omega) (by omega) (by omega)
          rw [hbv1] at hbb1
          have hbv2 : bitB (zs[z]?.getD 0) y = true := by have := at_or b2 h2; rwa [du_bit hvo.sets] at this
          have hbb2 := fun w => hasBit_any (zs[z]?.getD 0) (y : Int) w (by omega) (by omega) (by omega) (by omega)
          rw [hbv2] at hbb2
          clear hj b1 b2
          obtain ⟨bl, off, rfl, -, hc⟩ := hI3.at_ hz
          have hckx := hc z hz
          have hcky := hc z hz
          clear hc
          go_wp2_with fail
          refine (hbb1 _).mono ?_
          rintro e wq ⟨rfl, rfl⟩
          go_wp2_with fail
          refine (hbb2 _).mono ?_
          rintro e wq ⟨rfl, rfl⟩
          clear hckx hcky
          go_wp2_with fail
          refine (MeetOf_any _ n c1 zs y x w3 hI3 (by omega) (hE.below C3 hE.2)).mono ?_
          rw [HS.out]
          rintro e w4 ⟨rfl, hB4⟩
          have z4 := hB4.size
          have C4 := C3.trans (hB4.mono C3.size)
          have hI4 := hI3.to hB4 (Nat.le_refl _) z4
          clear hI3 hB4 C3
          go_wp2_with fail
          refine (DualOf_any _ n c1 zs w4 hI4 (by omega)).mono ?_
          rintro e w5 ⟨A5, m5, c5, rfl, r5, hB5⟩
          have z5 := hB5.size
          have C5 := C4.trans (hB5.mono C4.size)
          have hI5 := hI4.to hB5 (Nat.le_refl _) z5
          have hd5 := r5.ints (B := w5.heap.size) (Nat.le_refl _)
          have e5 := r5.len
          clear hI4 hB5 C4 r5
          rw [HD.out] at hd5 e5
          rw [du_len, hlen.out] at e5
          subst e5
          go_wp2_with fail
          refine (JoinOf_any A5 _ c5 (du zs) x y w5 hd5 (by omega) (hE.below C5 hE.2)).mono ?_
          rw [HO.out]
          rintro e w6 ⟨rfl, hB6⟩
          have z6 := hB6.size
          have C6 := C5.trans (hB6.mono C5.size)
          have hI6 := hI5.to hB6 (Nat.le_refl _) z6
          have hd6 := hd5.to hB6 (Nat.le_refl _) z6
          clear hI5 hd5 hB6 C5
          go_wp2_with fail
          go_ret
          exact ⟨rfl, C6⟩
  · go_enter Tryd.func8, Tryd.ntmps8
    go_wp2
    go_ret
    exact ⟨rfl, Below.refl _ _⟩
end Go.Proofs.YtmlihbcffndnbabDoor
