/- PairOf's own law: what is told is a pairing, and one of both orders turned round. -/
import Derived.Test.YtmlihbcffndnbaaDrPairOf
import Derived.Test.YtmlihbcffndnbaaMpO
import Derived.Test.YtmlihbcffndnbaaGxd
import Derived.Test.YtmlihbcffndnbaaEqI
import Derived.Test.YtmlihbcffndnbaaGa
set_option linter.unusedVariables false
set_option linter.unusedSimpArgs false
namespace Go.Proofs.Ytmlihbcffndnbaa
open Go.RowKit Go.Shelf

theorem dualR_vo2 {zs : List Int} (h : vo zs = true) : dualR zs = du zs := by unfold dualR du; rw [h]; rfl

set_option maxRecDepth 100000 in
set_option maxHeartbeats 8000000 in
theorem fnPairOf_walk (A : Option Addr) (m c : Nat) (bs : List Int) (w : World) (h : Byts w w.heap.size A m bs) (hcap : m ≤ c) :
    Calls Try.prog 11 #[.slice A m c] w fun e w' => e = .returned (.bool true) ∧ Below w.heap.size w w' := by
  by_cases hs : m ≤ 1048576
  · go_enter Try.func11, Try.ntmps11
    go_wp2_with fail
    refine (drawPairOf_any A m c bs w h hcap (by omega)).mono ?_
    rintro e w1 ⟨A1, n, c1, zs, Ay, my, cy, ys, Af, cf, fs, rfl, hn7, hm7, hI1, hJ1, hF1, C1⟩
    have hlen := Lib.hid hI1.len
    have hlen2 := Lib.hid hJ1.len
    obtain ⟨ok, hok⟩ : ∃ ok, poB zs ys fs = ok := ⟨_, rfl⟩
    obtain ⟨gs, hgs⟩ : ∃ gs, poR zs ys fs = gs := ⟨_, rfl⟩
    have Hok := Lib.hid hok
    have Hgs := Lib.hid hgs
    have hgl : gs.length ≤ 1048576 := by rw [← hgs]; exact poR_len _ _ _
    have hgg : decide (gs = gs) = true := by simp
    clear hok hgs
    go_wp2_with fail
    refine (PairOf_any A1 n c1 zs Ay my cy ys Af n cf fs w1 hI1 hJ1 hF1 (by omega) (by omega) (by omega)).mono ?_
    rw [Hgs.out, Hok.out]
    rintro e w2 ⟨A2, n2, c2, rfl, r2, hB2⟩
    have C2 := C1.trans (hB2.mono C1.size)
    have hI2 := hI1.to hB2 (Nat.le_refl _) hB2.size
    have hJ2 := hJ1.to hB2 (Nat.le_refl _) hB2.size
    have hF2 := hF1.to hB2 (Nat.le_refl _) hB2.size
    have hG2 := r2.ints (B := w2.heap.size) (Nat.le_refl _)
    have e2 := r2.len
    clear hI1 hJ1 hF1 hB2 C1 r2
    go_wp2_with fail
    refine (specPairOfF_any A1 n c1 zs Ay my cy ys Af n cf fs w2 hI2 hJ2 hF2 (by omega) (by omega) (by omega)).mono ?_
    rw [Hgs.out, Hok.out]
    rintro e w3 ⟨A3, n3, c3, rfl, r3, hB3⟩
    have C3 := C2.trans (hB3.mono C2.size)
    have hI3 := hI2.to hB3 (Nat.le_refl _) hB3.size
    have hJ3 := hJ2.to hB3 (Nat.le_refl _) hB3.size
    have hF3 := hF2.to hB3 (Nat.le_refl _) hB3.size
    have hG3 := hG2.to hB3 (Nat.le_refl _) hB3.size
    have hH3 := r3.ints (B := w3.heap.size) (Nat.le_refl _)
    have e3 := r3.len
    clear hI2 hJ2 hF2 hG2 hB3 C2 r3
    go_wp2_with fail
    refine (below_quiet (equalInts_any _ _ _ _ _ _ w3.heap.size w3.heap.size _ _ _ hG3 hH3 (by omega) (by omega))).mono ?_
    rintro e w4 ⟨rfl, hB4⟩
    have C4 := C3.trans (hB4.mono C3.size)
    have hI4 := hI3.to hB4 (Nat.le_refl _) hB4.size
    have hJ4 := hJ3.to hB4 (Nat.le_refl _) hB4.size
    have hF4 := hF3.to hB4 (Nat.le_refl _) hB4.size
    have hG4 := hG3.to hB4 (Nat.le_refl _) hB4.size
    have hH4 := hH3.to hB4 (Nat.le_refl _) hB4.size
    clear hI3 hJ3 hF3 hG3 hH3 hB4 C3
    cases ok
    · go_wp2_with fail
      refine (below_quiet (equalInts_any _ _ _ _ _ _ w4.heap.size w4.heap.size _ _ _ hG4 hH4 (by omega) (by omega))).mono ?_
      rintro e w5 ⟨rfl, hB5⟩
      go_wp2_with fail
      go_ret
      exact ⟨ret_bool (by simp), C4.trans (hB5.mono C4.size)⟩
    · have hpo := Hok.out
      have hpr := po_pair hpo
      have hR : poR zs ys fs = gsTo zs ys fs ys.length := by unfold poR; rw [hpo]; rfl
      rw [← hR, Hgs.out] at hpr
      have Hp := Lib.hid hpr
      have hvv : vo zs = true ∧ vo ys = true := by
        unfold poB mpB at hpo
        rw [Bool.and_eq_true, Bool.and_eq_true, Bool.and_eq_true] at hpo
        exact ⟨hpo.1.1, hpo.1.2.1⟩
      have hv1 : VoP zs := by simpa [vo] using hvv.1
      have hv2 : VoP ys := by simpa [vo] using hvv.2
      have Hp2 := Lib.hid (pair_swap hv1.sets hv2.sets hpr)
      have Hdz := Lib.hid (dualR_vo2 hvv.1)
      have Hdy := Lib.hid (dualR_vo2 hvv.2)
      clear hpo hpr hR hvv hv1 hv2
      go_wp2_with fail
      refine (IsPairing_any A1 n c1 zs Ay my cy ys Af n cf fs A2 n2 c2 gs w4 hI4 hJ4 hF4 hG4 (by omega) (by omega) (by omega) (by omega)).mono ?_
      rw [Hp.out]
      rintro e w5 ⟨rfl, hB5⟩
      have C5 := C4.trans (hB5.mono C4.size)
      have hI5 := hI4.to hB5 (Nat.le_refl _) hB5.size
      have hJ5 := hJ4.to hB5 (Nat.le_refl _) hB5.size
      have hF5 := hF4.to hB5 (Nat.le_refl _) hB5.size
      have hG5 := hG4.to hB5 (Nat.le_refl _) hB5.size
      clear hI4 hJ4 hF4 hG4 hH4 hB5 C4
      go_wp2_with fail
      refine (DualOf_any Ay my cy ys w5 hJ5 (by omega)).mono ?_
      rw [Hdy.out]
      rintro e w6 ⟨A6, n6, c6, rfl, r6, hB6⟩
      have C6 := C5.trans (hB6.mono C5.size)
      have hI6 := hI5.to hB6 (Nat.le_refl _) hB6.size
      have hF6 := hF5.to hB6 (Nat.le_refl _) hB6.size
      have hG6 := hG5.to hB6 (Nat.le_refl _) hB6.size
      have hD6 := r6.ints (B := w6.heap.size) (Nat.le_refl _)
      have e6 := r6.len
      rw [du_len, hlen2.out] at e6
      subst e6
      clear hI5 hJ5 hF5 hG5 hB6 C5 r6
      go_wp2_with fail
      refine (DualOf_any A1 n c1 zs w6 hI6 (by omega)).mono ?_
      rw [Hdz.out]
      rintro e w7 ⟨A7, n7, c7, rfl, r7, hB7⟩
      have C7 := C6.trans (hB7.mono C6.size)
      have hF7 := hF6.to hB7 (Nat.le_refl _) hB7.size
      have hG7 := hG6.to hB7 (Nat.le_refl _) hB7.size
      have hD7 := hD6.to hB7 (Nat.le_refl _) hB7.size
      have hE7 := r7.ints (B := w7.heap.size) (Nat.le_refl _)
      have e7 := r7.len
      rw [du_len, hlen.out] at e7
      subst e7
      clear hI6 hF6 hG6 hD6 hB7 C6 r7
      go_wp2_with fail
      refine (IsPairing_any A6 my c6 (du ys) A7 n c7 (du zs) A2 n2 c2 gs Af n cf fs w7 hD7 hE7 hG7 hF7 (by omega) (by omega) (by omega) (by omega)).mono ?_
      rw [Hp2.out]
      rintro e w8 ⟨rfl, hB8⟩
      go_wp2_with fail
      go_ret
      exact ⟨ret_bool (by simp), C7.trans (hB8.mono C7.size)⟩
  · go_enter Try.func11, Try.ntmps11
    go_wp2
    go_ret
    exact ⟨rfl, Below.refl _ _⟩
end Go.Proofs.Ytmlihbcffndnbaa
