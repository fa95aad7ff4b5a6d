/- WideOf's own law: 0 just if there are no next items, less than how many items there are, and the same turned round. -/
import Derived.Test.YtghogabmkbadjabDrWideOf
import Derived.Test.YtghogabmkbadjabWdS
import Derived.Test.YtghogabmkbadjabWdJ
import Derived.Test.YtghogabmkbadjabWdO
import Derived.Test.YtghogabmkbadjabCovImp
import Derived.Test.YtghogabmkbadjabGa
set_option linter.unusedVariables false
set_option linter.unusedSimpArgs false
namespace Go.Proofs.Ytghogabmkbadjab
open Go.RowKit Go.Shelf
attribute [local go_sem] Oper.semAt_some

set_option maxRecDepth 100000 in
set_option maxHeartbeats 8000000 in
theorem fnWideOf_walk (A : Option Addr) (m c : Nat) (bs : List Int) (w : World) (h : Byts w w.heap.size A m bs) (hcap : m ≤ c) :
    Calls Try.prog 11 #[.slice A m c] w fun e w' => e = .returned (.bool true) ∧ Below w.heap.size w w' := by
  by_cases hs : m ≤ 1048576
  · go_enter Try.func11, Try.ntmps11
    go_wp2_with fail
    refine (drawWideOf_any A m c bs w h hcap (by omega)).mono ?_
    rintro e w1 ⟨A1, n, c1, zs, rfl, hn7, hI1, C1⟩
    have hlen := Lib.hid hI1.len
    have z1 := C1.size
    go_wp2_with fail
    refine (WideOf_any A1 n c1 zs w1 hI1 (by omega)).mono ?_
    rintro e w2 ⟨rfl, hB2⟩
    have z2 := hB2.size
    have C2 := C1.trans (hB2.mono z1)
    have hI2 := hI1.to hB2 (Nat.le_refl _) z2
    go_wp2_with fail
    refine (specWideOfF_any A1 n c1 zs w2 hI2 (by omega)).mono ?_
    rintro e w3 ⟨rfl, hB3⟩
    have z3 := hB3.size
    have C3 := C2.trans (hB3.mono (by omega))
    have hI3 := hI2.to hB3 (Nat.le_refl _) z3
    clear hI1 hI2 hB2 hB3 C1 C2
    by_cases hgood : vo zs = true ∧ n ≤ 5
    · obtain ⟨hv, hn5⟩ := hgood
      have hvo : VoP zs := by simpa [vo] using hv
      obtain ⟨W, hW6, hW1, hW2, hW0, hWn⟩ := wide_facts hvo (by rw [hlen.out]; exact hn5)
      rw [hlen.out] at hWn
      have HW2 := Lib.hid hW2
      have HD := Lib.hid (show dualR zs = du zs by unfold dualR; rw [hv]; rfl)
      have Hdl := Lib.hid (show (du zs).length = n by rw [du_len, hlen.out])
      obtain ⟨K, hK⟩ : ∃ K, (coversR zs).length = K := ⟨_, rfl⟩
      rw [hK] at hW0
      have HK := Lib.hid hK
      rw [hW1]
      have hne : ((W : Int) != (W : Int)) = false := by simp
      have hwl : (decide ((W : Int) < 0)) = false := by simp
      clear hW1 hW2 hK hv
      go_wp2_with fail
      refine (CoversOf_any A1 n c1 zs w3 hI3 (by omega)).mono ?_
      rintro e w4 ⟨A4, n4, c4, rfl, r4, hB4⟩
      have z4 := hB4.size
      have C4 := C3.trans (hB4.mono (by omega))
      have hI4 := hI3.to hB4 (Nat.le_refl _) z4
      have hn4 : n4 = K := by rw [← r4.len, HK.out]
      subst hn4
      clear hI3 hB4 C3 r4
      have fin : ∀ w5, Below w4.heap.size w4 w5 → Below w.heap.size w w5 := fun w5 hB => C4.trans (hB.mono (by omega))
      have h0 : ((W : Int) == 0) = ((n4 : Int) == 0) := by
        rw [Bool.eq_iff_iff, beq_iff_eq, beq_iff_eq]
        omega
      have Hdual := Lib.hid (DualOf_any A1 n c1 zs w4 hI4 (by omega))
      have tail : Calls Try.prog 22 #[.slice A1 n c1] w4 (fun e w' => ∃ A5 c5, e = .returned (.slice A5 n c5) ∧ Ints w' w'.heap.size A5 n (du zs) ∧ Below w4.heap.size w4 w') := Hdual.out.mono (by
        rintro e w5 ⟨A5, m5, c5, rfl, r5, hB5⟩
        rw [HD.out] at r5
        have hm := r5.len
        rw [Hdl.out] at hm
        subst hm
        exact ⟨A5, c5, rfl, r5.ints (Nat.le_refl _), hB5⟩)
      have Htail := Lib.hid tail
      clear tail Hdual
      rcases Nat.eq_zero_or_pos W with hz | hz
      · have hw0 : ((W : Int) == 0) = true := by simp; omega
        have hk0 : ((n4 : Int) == 0) = true := by rw [← h0]; exact hw0
        rcases Nat.eq_zero_or_pos n with hn0 | hn0
        · subst hn0
          have hlt : decide ((W : Int) < 1) = true := by simp; omega
          go_wp2_with fail
          refine Htail.out.mono ?_
          rintro e w5 ⟨A5, c5, rfl, hI5, hB5⟩
          have z5 := hB5.size
          go_wp2_with fail
          refine (WideOf_any A5 0 c5 (du zs) w5 hI5 (by omega)).mono ?_
          rw [HW2.out]
          rintro e w6 ⟨rfl, hB6⟩
          go_wp2_with fail
          go_ret
          exact ⟨rfl, fin _ (hB5.trans (hB6.mono z5))⟩
        · have hlt : decide ((W : Int) < (n : Int)) = true := by simp; omega
          rcases (show n = 1 ∨ 1 < n by omega) with hn2 | hn2
          · subst hn2
            go_wp2_with fail
            all_goals first | (exfalso; omega) | skip
            refine Htail.out.mono ?_
            rintro e w5 ⟨A5, c5, rfl, hI5, hB5⟩
            have z5 := hB5.size
            go_wp2_with fail
            refine (WideOf_any A5 _ c5 (du zs) w5 hI5 (by omega)).mono ?_
            rw [HW2.out]
            rintro e w6 ⟨rfl, hB6⟩
            go_wp2_with fail
            go_ret
            exact ⟨rfl, fin _ (hB5.trans (hB6.mono z5))⟩
          · go_wp2_with fail
            all_goals first | (exfalso; omega) | skip
            refine Htail.out.mono ?_
            rintro e w5 ⟨A5, c5, rfl, hI5, hB5⟩
            have z5 := hB5.size
            go_wp2_with fail
            refine (WideOf_any A5 _ c5 (du zs) w5 hI5 (by omega)).mono ?_
            rw [HW2.out]
            rintro e w6 ⟨rfl, hB6⟩
            go_wp2_with fail
            go_ret
            exact ⟨rfl, fin _ (hB5.trans (hB6.mono z5))⟩
      · have hw0 : ((W : Int) == 0) = false := by simp; omega
        have hk0 : ((n4 : Int) == 0) = false := by rw [← h0]; exact hw0
        have hn0 : 1 < n := by omega
        have hlt : decide ((W : Int) < (n : Int)) = true := by simp; omega
        go_wp2_with fail
        all_goals first | (exfalso; omega) | skip
        refine Htail.out.mono ?_
        rintro e w5 ⟨A5, c5, rfl, hI5, hB5⟩
        have z5 := hB5.size
        go_wp2_with fail
        refine (WideOf_any A5 _ c5 (du zs) w5 hI5 (by omega)).mono ?_
        rw [HW2.out]
        rintro e w6 ⟨rfl, hB6⟩
        go_wp2_with fail
        go_ret
        exact ⟨rfl, fin _ (hB5.trans (hB6.mono z5))⟩
    · have Ht := Lib.hid (show wideOfR zs = -1 by
        unfold wideOfR
        rw [if_neg]
        rw [Bool.and_eq_true, decide_eq_true_eq, hlen.out]
        exact hgood)
      rw [Ht.out]
      go_wp2_with fail
      refine (specWideOfF_any A1 n c1 zs w3 hI3 (by omega)).mono ?_
      rw [Ht.out]
      rintro e w4 ⟨rfl, hB4⟩
      go_wp2_with fail
      go_ret
      exact ⟨rfl, C3.trans (hB4.mono (by omega))⟩
  · go_enter Try.func11, Try.ntmps11
    go_wp2
    go_ret
    exact ⟨rfl, Below.refl _ _⟩
end Go.Proofs.Ytghogabmkbadjab
