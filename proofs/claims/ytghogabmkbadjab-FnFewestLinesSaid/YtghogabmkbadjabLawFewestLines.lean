/- FewestLines' own law: it is 1 just of a chain, at most 2 just if there is a side, and the same of the order turned round. -/
import Derived.Test.YtghogabmkbadjabGxa
import Derived.Test.YtghogabmkbadjabGxk
import Derived.Test.YtghogabmkbadjabFwI
import Derived.Test.YtghogabmkbadjabGxr
import Derived.Test.YtghogabmkbadjabGxb
import Derived.Test.YtghogabmkbadjabGa
set_option linter.unusedVariables false
set_option linter.unusedSimpArgs false
namespace Go.Proofs.Ytghogabmkbadjab
open Go.RowKit Go.Shelf

set_option maxRecDepth 100000 in
set_option maxHeartbeats 8000000 in
theorem fnFewestLines_walk (A : Option Addr) (m c : Nat) (bs : List Int) (w : World) (h : Byts w w.heap.size A m bs) (hcap : m ≤ c) :
    Calls Try.prog 4 #[.slice A m c] w fun e w' => e = .returned (.bool true) ∧ Below w.heap.size w w' := by
  by_cases hs : m ≤ 1048576
  · go_enter Try.func4, Try.ntmps4
    go_wp2_with fail
    refine (drawFewestLines_any A m c bs w h hcap (by omega)).mono ?_
    rintro e w1 ⟨A1, n, c1, zs, rfl, hn7, hI1, C1⟩
    have hlen := Lib.hid hI1.len
    by_cases hL0 : vo zs = true ∧ linesR zs ≤ 60
    · obtain ⟨hv, hl60⟩ := hL0
      have hvo : VoP zs := by simpa [vo] using hv
      have hn6 : n ≤ 6 := by have := hvo.1; rw [hlen.out] at this; exact this
      obtain ⟨HF, HG, hk1, hk3, hone, htwo⟩ := few_facts hvo hl60
      rw [hlen.out] at hone
      generalize fwN zs = K at *
      have HF := Lib.hid HF
      have HG := Lib.hid HG
      have HD := Lib.hid (show dualR zs = du zs by unfold dualR; rw [vo_true hvo]; rfl)
      have HLg := Lib.hid (show longR zs = longI zs by unfold longR; rw [vo_true hvo]; rfl)
      have hlg := longI_bd hvo
      have hlg0 := longI_nn zs
      rw [hlen.out] at hlg
      generalize longI zs = Q at *
      have Hone := Lib.hid hone
      have Htwo := Lib.hid htwo
      clear hone htwo hv hl60
      go_wp2_with fail
      refine (FewestLines_any A1 n c1 zs w1 hI1 (by omega)).mono ?_
      rw [HF.out]
      rintro e w2 ⟨rfl, hB2⟩
      have z2 := hB2.size
      have C2 := C1.trans (hB2.mono C1.size)
      have hI2 := hI1.to hB2 (Nat.le_refl _) z2
      clear hI1 hB2 C1
      go_wp2_with fail
      refine (specFewestLinesF_any A1 n c1 zs w2 hI2 (by omega)).mono ?_
      rw [HF.out]
      rintro e w3 ⟨rfl, hB3⟩
      have z3 := hB3.size
      have C3 := C2.trans (hB3.mono C2.size)
      have hI3 := hI2.to hB3 (Nat.le_refl _) z3
      clear hI2 hB3 C2
      go_wp2_with fail
      refine (SideOrder_any A1 n c1 zs w3 hI3 (by omega)).mono ?_
      rintro e w4 ⟨A4, m4, c4, rfl, r4, hB4⟩
      have z4 := hB4.size
      have C4 := C3.trans (hB4.mono C3.size)
      have hI4 := hI3.to hB4 (Nat.le_refl _) z4
      have hs4 := r4.ints (B := w4.heap.size) (Nat.le_refl _)
      have e4 := r4.len
      clear hI3 hB4 C3 r4
      go_wp2_with fail
      refine (DualOf_any A1 n c1 zs w4 hI4 (by omega)).mono ?_
      rintro e w5 ⟨A5, m5, c5, rfl, r5, hB5⟩
      have z5 := hB5.size
      have C5 := C4.trans (hB5.mono C4.size)
      have hI5 := hI4.to hB5 (Nat.le_refl _) z5
      have hs5 := hs4.to hB5 (Nat.le_refl _) z5
      have hd5 := r5.ints (B := w5.heap.size) (Nat.le_refl _)
      have e5 := r5.len
      clear hI4 hs4 hB5 C4 r5
      rw [HD.out] at hd5 e5
      rw [du_len, hlen.out] at e5
      subst e5
      go_wp2_with fail
      refine (FewestLines_any A5 _ c5 (du zs) w5 hd5 (by omega)).mono ?_
      rw [HG.out]
      rintro e w6 ⟨rfl, hB6⟩
      have z6 := hB6.size
      have C6 := C5.trans (hB6.mono C5.size)
      have hI6 := hI5.to hB6 (Nat.le_refl _) z6
      have hs6 := hs5.to hB6 (Nat.le_refl _) z6
      have hd6 := hd5.to hB6 (Nat.le_refl _) z6
      clear hI5 hs5 hd5 hB6 C5
      cases hok : sdOk zs
      · have hK2 : ¬ K ≤ 2 := by have := Htwo.out; rw [hok] at this; simpa using this
        have hkd : decide (K ≤ 2) = false := by simpa using hK2
        clear hok hK2
        by_cases hq : Q = (n : Int)
        · have hK1 : K = 1 := Hone.out.2 hq
          go_wp2_with fail
          refine (LongestChain_any A1 _ c1 zs w6 hI6 (by omega)).mono ?_
          rw [HLg.out]
          rintro e w7 ⟨rfl, hB7⟩
          have z7 := hB7.size
          have C7 := C6.trans (hB7.mono C6.size)
          have hI7 := hI6.to hB7 (Nat.le_refl _) z7
          have hs7 := hs6.to hB7 (Nat.le_refl _) z7
          have hd7 := hd6.to hB7 (Nat.le_refl _) z7
          clear hI6 hs6 hd6 hB7 C6
          subst hK1
          subst hq
          go_wp2_with fail
          all_goals first | (exfalso; revert hkd; decide) | skip
          all_goals go_ret
          all_goals exact ⟨rfl, C7⟩
        · have hK1 : ¬ K = 1 := fun e => hq (Hone.out.1 e)
          have hkb : (K == 1) = false := by simpa using hK1
          have hqb : (Q == (n : Int)) = false := by simpa using hq
          clear hK1 hq
          go_wp2_with fail
          refine (LongestChain_any A1 _ c1 zs w6 hI6 (by omega)).mono ?_
          rw [HLg.out]
          rintro e w7 ⟨rfl, hB7⟩
          have z7 := hB7.size
          have C7 := C6.trans (hB7.mono C6.size)
          have hI7 := hI6.to hB7 (Nat.le_refl _) z7
          have hs7 := hs6.to hB7 (Nat.le_refl _) z7
          have hd7 := hd6.to hB7 (Nat.le_refl _) z7
          clear hI6 hs6 hd6 hB7 C6
          go_wp2_with fail
          go_ret
          exact ⟨rfl, C7⟩
      · have hK2 : K ≤ 2 := by have := Htwo.out; rw [hok] at this; simpa using this
        have hkd : decide (K ≤ 2) = true := by simpa using hK2
        clear hok hK2
        by_cases hq : Q = (n : Int)
        · have hK1 : K = 1 := Hone.out.2 hq
          go_wp2_with fail
          refine (LongestChain_any A1 _ c1 zs w6 hI6 (by omega)).mono ?_
          rw [HLg.out]
          rintro e w7 ⟨rfl, hB7⟩
          have z7 := hB7.size
          have C7 := C6.trans (hB7.mono C6.size)
          have hI7 := hI6.to hB7 (Nat.le_refl _) z7
          have hs7 := hs6.to hB7 (Nat.le_refl _) z7
          have hd7 := hd6.to hB7 (Nat.le_refl _) z7
          clear hI6 hs6 hd6 hB7 C6
          subst hK1
          subst hq
          go_wp2_with fail
          all_goals first | (exfalso; revert hkd; decide) | skip
          all_goals go_ret
          all_goals exact ⟨rfl, C7⟩
        · have hK1 : ¬ K = 1 := fun e => hq (Hone.out.1 e)
          have hkb : (K == 1) = false := by simpa using hK1
          have hqb : (Q == (n : Int)) = false := by simpa using hq
          clear hK1 hq
          go_wp2_with fail
          refine (LongestChain_any A1 _ c1 zs w6 hI6 (by omega)).mono ?_
          rw [HLg.out]
          rintro e w7 ⟨rfl, hB7⟩
          have z7 := hB7.size
          have C7 := C6.trans (hB7.mono C6.size)
          have hI7 := hI6.to hB7 (Nat.le_refl _) z7
          have hs7 := hs6.to hB7 (Nat.le_refl _) z7
          have hd7 := hd6.to hB7 (Nat.le_refl _) z7
          clear hI6 hs6 hd6 hB7 C6
          go_wp2_with fail
          go_ret
          exact ⟨rfl, C7⟩
    · have HL := Lib.hid (show fewLR zs = -1 by
        unfold fewLR
        rw [if_neg]
        intro e
        rw [Bool.and_eq_true, decide_eq_true_eq] at e
        exact hL0 e)
      clear hL0
      go_wp2_with fail
      refine (FewestLines_any A1 n c1 zs w1 hI1 (by omega)).mono ?_
      rw [HL.out]
      rintro e w2 ⟨rfl, hB2⟩
      have z2 := hB2.size
      have C2 := C1.trans (hB2.mono C1.size)
      have hI2 := hI1.to hB2 (Nat.le_refl _) z2
      clear hI1 hB2 C1
      go_wp2_with fail
      refine (specFewestLinesF_any A1 n c1 zs w2 hI2 (by omega)).mono ?_
      rw [HL.out]
      rintro e w3 ⟨rfl, hB3⟩
      have z3 := hB3.size
      have C3 := C2.trans (hB3.mono C2.size)
      have hI3 := hI2.to hB3 (Nat.le_refl _) z3
      clear hI2 hB3 C2
      go_wp2_with fail
      refine (specFewestLinesF_any A1 n c1 zs w3 hI3 (by omega)).mono ?_
      rw [HL.out]
      rintro e w4 ⟨rfl, hB4⟩
      have z4 := hB4.size
      have C4 := C3.trans (hB4.mono C3.size)
      have hI4 := hI3.to hB4 (Nat.le_refl _) z4
      clear hI3 hB4 C3
      go_wp2_with fail
      go_ret
      exact ⟨rfl, C4⟩
  · go_enter Try.func4, Try.ntmps4
    go_wp2
    go_ret
    exact ⟨rfl, Below.refl _ _⟩
end Go.Proofs.Ytghogabmkbadjab
