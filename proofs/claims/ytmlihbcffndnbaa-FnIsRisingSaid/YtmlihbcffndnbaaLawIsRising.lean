/- IsRising's own law: it holds of both turned round, and of the list that leaves all as it is. -/
import Derived.Test.YtmlihbcffndnbaaDrIsRising
import Derived.Test.YtmlihbcffndnbaaMpO
import Derived.Test.YtmlihbcffndnbaaGxc
import Derived.Test.YtmlihbcffndnbaaGxf
import Derived.Test.YtmlihbcffndnbaaUpt
import Derived.Test.YtmlihbcffndnbaaGa
set_option linter.unusedVariables false
set_option linter.unusedSimpArgs false
namespace Go.Proofs.Ytmlihbcffndnbaa
open Go.RowKit Go.Shelf

theorem dualR_vo {zs : List Int} (h : vo zs = true) : dualR zs = du zs := by unfold dualR du; rw [h]; rfl

set_option maxRecDepth 100000 in
set_option maxHeartbeats 8000000 in
theorem fnIsRising_walk (A : Option Addr) (m c : Nat) (bs : List Int) (w : World) (h : Byts w w.heap.size A m bs) (hcap : m ≤ c) :
    Calls Try.prog 8 #[.slice A m c] w fun e w' => e = .returned (.bool true) ∧ Below w.heap.size w w' := by
  by_cases hs : m ≤ 1048576
  · go_enter Try.func8, Try.ntmps8
    go_wp2_with fail
    refine (drawIsRising_any A m c bs w h hcap (by omega)).mono ?_
    rintro e w1 ⟨A1, n, c1, zs, Ay, my, cy, ys, Af, cf, fs, rfl, hn7, hm7, hI1, hJ1, hF1, C1⟩
    have hlen := Lib.hid hI1.len
    have hlen2 := Lib.hid hJ1.len
    have hlen3 := Lib.hid hF1.len
    go_wp2_with fail
    refine (IsRising_any A1 n c1 zs Ay my cy ys Af n cf fs w1 hI1 hJ1 hF1 (by omega) (by omega) (by omega)).mono ?_
    rintro e w2 ⟨rfl, hB2⟩
    have C2 := C1.trans (hB2.mono C1.size)
    have hI2 := hI1.to hB2 (Nat.le_refl _) hB2.size
    have hJ2 := hJ1.to hB2 (Nat.le_refl _) hB2.size
    have hF2 := hF1.to hB2 (Nat.le_refl _) hB2.size
    clear hI1 hJ1 hF1 hB2 C1
    cases hr : risB zs ys fs
    · have Hr := Lib.hid hr
      clear hr
      go_wp2_with fail
      refine (specIsRisingF_any A1 n c1 zs Ay my cy ys Af n cf fs w2 hI2 hJ2 hF2 (by omega) (by omega) (by omega)).mono ?_
      rw [Hr.out]
      rintro e w3 ⟨rfl, hB3⟩
      have C3 := C2.trans (hB3.mono C2.size)
      have hI3 := hI2.to hB3 (Nat.le_refl _) hB3.size
      have hJ3 := hJ2.to hB3 (Nat.le_refl _) hB3.size
      have hF3 := hF2.to hB3 (Nat.le_refl _) hB3.size
      go_wp2_with fail
      refine (specIsRisingF_any A1 n c1 zs Ay my cy ys Af n cf fs w3 hI3 hJ3 hF3 (by omega) (by omega) (by omega)).mono ?_
      rw [Hr.out]
      rintro e w4 ⟨rfl, hB4⟩
      go_wp2_with fail
      go_ret
      exact ⟨rfl, C3.trans (hB4.mono C3.size)⟩
    · have Hr := Lib.hid hr
      obtain ⟨hv, hvy, hl⟩ := ris_vo hr
      have Hd := Lib.hid (ris_du hr)
      have Hi := Lib.hid (ris_id hv)
      rw [hlen.out] at Hi
      have Hdz := Lib.hid (dualR_vo hv)
      have Hdy := Lib.hid (dualR_vo hvy)
      clear hr hv hvy hl
      go_wp2_with fail
      refine (specIsRisingF_any A1 n c1 zs Ay my cy ys Af n cf fs w2 hI2 hJ2 hF2 (by omega) (by omega) (by omega)).mono ?_
      rw [Hr.out]
      rintro e w3 ⟨rfl, hB3⟩
      have C3 := C2.trans (hB3.mono C2.size)
      have hI3 := hI2.to hB3 (Nat.le_refl _) hB3.size
      have hJ3 := hJ2.to hB3 (Nat.le_refl _) hB3.size
      have hF3 := hF2.to hB3 (Nat.le_refl _) hB3.size
      clear hI2 hJ2 hF2 hB3 C2
      go_wp2_with fail
      refine (DualOf_any A1 n c1 zs w3 hI3 (by omega)).mono ?_
      rw [Hdz.out]
      rintro e w4 ⟨A4, n4, c4, rfl, r4, hB4⟩
      have C4 := C3.trans (hB4.mono C3.size)
      have hI4 := hI3.to hB4 (Nat.le_refl _) hB4.size
      have hJ4 := hJ3.to hB4 (Nat.le_refl _) hB4.size
      have hF4 := hF3.to hB4 (Nat.le_refl _) hB4.size
      have hD4 := r4.ints (B := w4.heap.size) (Nat.le_refl _)
      have e4 := r4.len
      rw [du_len, hlen.out] at e4
      subst e4
      clear hI3 hJ3 hF3 hB4 C3 r4
      go_wp2_with fail
      refine (DualOf_any Ay my cy ys w4 hJ4 (by omega)).mono ?_
      rw [Hdy.out]
      rintro e w5 ⟨A5, n5, c5, rfl, r5, hB5⟩
      have C5 := C4.trans (hB5.mono C4.size)
      have hI5 := hI4.to hB5 (Nat.le_refl _) hB5.size
      have hF5 := hF4.to hB5 (Nat.le_refl _) hB5.size
      have hD5 := hD4.to hB5 (Nat.le_refl _) hB5.size
      have hE5 := r5.ints (B := w5.heap.size) (Nat.le_refl _)
      have e5 := r5.len
      rw [du_len, hlen2.out] at e5
      subst e5
      clear hI4 hJ4 hF4 hD4 hB5 C4 r5
      go_wp2_with fail
      refine (IsRising_any A4 n c4 (du zs) A5 my c5 (du ys) Af n cf fs w5 hD5 hE5 hF5 (by omega) (by omega) (by omega)).mono ?_
      rw [Hd.out]
      rintro e w6 ⟨rfl, hB6⟩
      have C6 := C5.trans (hB6.mono C5.size)
      have hI6 := hI5.to hB6 (Nat.le_refl _) hB6.size
      clear hI5 hF5 hD5 hE5 hB6 C5
      go_wp2_with fail
      refine (upto_any n w6 (by omega)).mono ?_
      rintro e w7 ⟨A7, c7, rfl, hU7, hB7⟩
      have C7 := C6.trans (hB7.mono C6.size)
      have hI7 := hI6.to hB7 (Nat.le_refl _) hB7.size
      go_wp2_with fail
      refine (IsRising_any A1 n c1 zs A1 n c1 zs A7 n c7 (uptoL n) w7 hI7 hI7 hU7 (by omega) (by omega) (by omega)).mono ?_
      rw [Hi.out]
      rintro e w8 ⟨rfl, hB8⟩
      go_wp2_with fail
      go_ret
      exact ⟨ret_bool (by simp), C7.trans (hB8.mono C7.size)⟩
  · go_enter Try.func8, Try.ntmps8
    go_wp2
    go_ret
    exact ⟨rfl, Below.refl _ _⟩
end Go.Proofs.Ytmlihbcffndnbaa
