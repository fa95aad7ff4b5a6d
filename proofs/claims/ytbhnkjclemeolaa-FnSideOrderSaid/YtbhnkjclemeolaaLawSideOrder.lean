/- SideOrder's own law: sides have all other pairs. -/
import Derived.Test.YtbhnkjclemeolaaDrSideOrder
import Derived.Test.YtbhnkjclemeolaaSdO
import Derived.Test.YtbhnkjclemeolaaPlI
import Derived.Test.YtbhnkjclemeolaaVOrd
import Derived.Test.YtbhnkjclemeolaaEqI
import Derived.Test.YtbhnkjclemeolaaGa
set_option linter.unusedVariables false
set_option linter.unusedSimpArgs false
namespace Go.Proofs.Ytbhnkjclemeolaa
open Go.RowKit Go.Shelf
attribute [local go_sem] Oper.semAt_some

theorem half_pairs {k p q : Nat} (hk : k ≤ 6) (h : 2 * (p + q) + k = k * k) : (p : Int) + (q : Int) = wrap64 ((wrap64 ((k : Int) * ((k : Int) - 1))).tdiv 2) := by
  have hc : k = 0 ∨ k = 1 ∨ k = 2 ∨ k = 3 ∨ k = 4 ∨ k = 5 ∨ k = 6 := by omega
  rcases hc with rfl | rfl | rfl | rfl | rfl | rfl | rfl
  · rw [show (p : Int) + (q : Int) = 0 by omega]; decide +kernel
  · rw [show (p : Int) + (q : Int) = 0 by omega]; decide +kernel
  · rw [show (p : Int) + (q : Int) = 1 by omega]; decide +kernel
  · rw [show (p : Int) + (q : Int) = 3 by omega]; decide +kernel
  · rw [show (p : Int) + (q : Int) = 6 by omega]; decide +kernel
  · rw [show (p : Int) + (q : Int) = 10 by omega]; decide +kernel
  · rw [show (p : Int) + (q : Int) = 15 by omega]; decide +kernel

theorem GivesSd_def (w : World) (zs : List Int) : GivesSd w zs = fun e w' => ∃ A m c, e = .returned (.tuple #[.slice A m c, .bool (sdOk zs)]) ∧ Row w' w.heap.size w'.heap.size A m (sdR zs) ∧ Below w.heap.size w w' := rfl

set_option maxRecDepth 100000 in
set_option maxHeartbeats 8000000 in
theorem fnSideOrder_walk (A : Option Addr) (m c : Nat) (bs : List Int) (w : World) (h : Byts w w.heap.size A m bs) (hcap : m ≤ c) :
    Calls Try.prog 8 #[.slice A m c] w fun e w' => e = .returned (.bool true) ∧ Below w.heap.size w w' := by
  by_cases hs : m ≤ 1048576
  · go_enter Try.func8, Try.ntmps8
    go_wp2_with fail
    refine (drawSideOrder_any A m c bs w h hcap (by omega)).mono ?_
    rintro e w1 ⟨A1, n, c1, zs, rfl, hn7, hI1, C1⟩
    have hlen := Lib.hid hI1.len
    have HR6 := Lib.hid (sdR_len zs)
    cases hok : sdOk zs
    · have Hok := Lib.hid hok
      clear hok
      go_wp2_with fail
      refine (SideOrder_any A1 n c1 zs w1 hI1 (by omega)).mono ?_
      rintro e w2 ⟨A2, m2, c2, rfl, r2, hB2⟩
      rw [Hok.out]
      have z2 := hB2.size
      have C2 := C1.trans (hB2.mono C1.size)
      have hI2 := hI1.to hB2 (Nat.le_refl _) z2
      go_wp2_with fail
      refine (specSideOrder_any A1 n c1 zs w2 hI2 (by omega)).mono ?_
      rintro e w3 ⟨A3, m3, c3, rfl, r3, hB3⟩
      rw [Hok.out]
      have z3 := hB3.size
      have C3 := C2.trans (hB3.mono C2.size)
      have hI3 := hI2.to hB3 (Nat.le_refl _) z3
      have r23 := r2.below hB3 (Nat.le_refl _)
      have hm2 : m2 ≤ 6 := by rw [← r2.len]; exact HR6.out
      have hm3 : m3 ≤ 6 := by rw [← r3.len]; exact HR6.out
      have i2 : Ints w3 w3.heap.size A2 m2 (sdR zs) := r23.ints z3
      have i3 : Ints w3 w3.heap.size A3 m3 (sdR zs) := r3.ints (Nat.le_refl _)
      have Heq := Lib.hid (show ∀ q, Calls Try.prog 29 #[.slice A2 m2 c2, .slice A3 m3 c3] (w3.drewN q) fun e w' => e = .returned (.bool true) ∧ ∃ k, w' = (w3.drewN q).drewN k from fun q => (equalInts_any A2 A3 m2 c2 m3 c3 w3.heap.size w3.heap.size (sdR zs) (sdR zs) (w3.drewN q) (i2.drewN q) (i3.drewN q) (by omega) (by omega)).mono fun e w' h => ⟨by rw [h.1, decide_eq_true rfl], h.2⟩)
      clear hI1 hI2 r2 r3 r23 hB2 hB3 C1 C2
      go_wp2_with fail
      refine (Heq.out 0).mono ?_
      rintro e w4 ⟨rfl, q4, rfl⟩
      go_wp2_with fail
      refine (Heq.out _).mono ?_
      rintro e w5 ⟨rfl, q5, rfl⟩
      go_wp2_with fail
      go_ret
      exact ⟨rfl, by first | exact below_drewN (below_drewN (below_drewN C3 _) _) _ | exact below_drewN (below_drewN C3 _) _ | exact below_drewN C3 _⟩
    · have Hok := Lib.hid hok
      have Hf := Lib.hid (side_facts hok)
      clear hok
      go_wp2_with fail
      refine (SideOrder_any A1 n c1 zs w1 hI1 (by omega)).mono ?_
      rintro e w2 ⟨A2, m2, c2, rfl, r2, hB2⟩
      rw [Hok.out]
      have z2 := hB2.size
      have C2 := C1.trans (hB2.mono C1.size)
      have hI2 := hI1.to hB2 (Nat.le_refl _) z2
      go_wp2_with fail
      refine (specSideOrder_any A1 n c1 zs w2 hI2 (by omega)).mono ?_
      rintro e w3 ⟨A3, m3, c3, rfl, r3, hB3⟩
      rw [Hok.out]
      have z3 := hB3.size
      have C3 := C2.trans (hB3.mono C2.size)
      have hI3 := hI2.to hB3 (Nat.le_refl _) z3
      have r23 := r2.below hB3 (Nat.le_refl _)
      have hm2 : m2 ≤ 6 := by rw [← r2.len]; exact HR6.out
      have hm3 : m3 ≤ 6 := by rw [← r3.len]; exact HR6.out
      have i2 : Ints w3 w3.heap.size A2 m2 (sdR zs) := r23.ints z3
      have i3 : Ints w3 w3.heap.size A3 m3 (sdR zs) := r3.ints (Nat.le_refl _)
      have Heq := Lib.hid (show ∀ q, Calls Try.prog 29 #[.slice A2 m2 c2, .slice A3 m3 c3] (w3.drewN q) fun e w' => e = .returned (.bool true) ∧ ∃ k, w' = (w3.drewN q).drewN k from fun q => (equalInts_any A2 A3 m2 c2 m3 c3 w3.heap.size w3.heap.size (sdR zs) (sdR zs) (w3.drewN q) (i2.drewN q) (i3.drewN q) (by omega) (by omega)).mono fun e w' h => ⟨by rw [h.1, decide_eq_true rfl], h.2⟩)
      clear hI1 hI2 r2 r3 r23 hB2 hB3 C1 C2
      go_wp2_with fail
      refine (Heq.out 0).mono ?_
      rintro e w4 ⟨rfl, q4, rfl⟩
      obtain ⟨T, hT, hvo, hvT, hTl, hand, hokT, p, q, hcp, hcq, hpq, hp18, hq18⟩ := Hf.out
      have hn6 : n ≤ 6 := by have := hvo.1; rw [hlen.out] at this; exact this
      rw [hT] at i2 i3 HR6
      have HokT := Lib.hid hokT
      have HvT := Lib.hid (vo_true hvT)
      have Hcp := Lib.hid hcp
      have Hcq := Lib.hid hcq
      have Hand := Lib.hid hand
      have hm2n : m2 = n := by rw [← i2.len, hTl, hlen.out]
      subst hm2n
      rw [hlen.out] at hpq
      have C4 : Below w.heap.size w ((w3.drewN 0).drewN q4) := below_drewN (below_drewN C3 0) q4
      have hI4 : Ints ((w3.drewN 0).drewN q4) ((w3.drewN 0).drewN q4).heap.size A1 m2 zs := (hI3.drewN 0).drewN q4
      have i4 : Ints ((w3.drewN 0).drewN q4) ((w3.drewN 0).drewN q4).heap.size A2 m2 T := (i2.drewN 0).drewN q4
      obtain ⟨W4, hW4⟩ : ∃ W4, (w3.drewN 0).drewN q4 = W4 := ⟨_, rfl⟩
      rw [hW4] at C4 hI4 i4 ⊢
      clear hW4 hT hTl hand hokT hcp hcq i2 i3 hI3 C3 Heq Hf
      have z4 := C4.size
      have Hsz := Lib.hid hvo.sets
      have HsT := Lib.hid hvT.sets
      clear hvo hvT
      go_wp2_with fail
      refine (SideOrder_any A2 m2 c2 T W4 i4 (by omega)).mono ?_
      rintro e w5 ⟨A5, m5, c5, rfl, -, hB5⟩
      rw [HokT.out]
      have z5 := hB5.size
      have C5 := C4.trans (hB5.mono C4.size)
      have hI5 := hI4.to hB5 (Nat.le_refl _) z5
      have i5 := i4.to hB5 (Nat.le_refl _) z5
      clear hI4 i4 C4 hB5
      go_wp2_with fail
      refine (PlaneLines_any A1 m2 c1 zs w5 hI5 (by omega)).mono ?_
      rintro e w6 ⟨hB6, (⟨hno, rfl⟩ | ⟨_, T', g, A1', c1', A2', c2', mid, _, rfl, _⟩)⟩
      · rw [Hok.out] at hno; cases hno
      · have z6 := hB6.size
        have C6 := C5.trans (hB6.mono C5.size)
        have hI6 := hI5.to hB6 (Nat.le_refl _) z6
        have i6 := i5.to hB6 (Nat.le_refl _) z6
        clear hI5 i5 C5 hB6
        go_wp2_with fail
        go_loopw [13] (fun i wr => ∃ k q : Nat, k ≤ m2 ∧ i = .int .i64 k ∧ wr = w6.drewN q) (fun i _ => m2 - (intOf i).toNat)
        case atStart => exact ⟨0, 0, by omega, rfl, rfl⟩
        case round =>
          obtain ⟨k, q', hk, rfl, rfl⟩ := hrel
          by_cases hlt : k < m2
          · have h1 := i6.drewN q'
            have h2 := hI6.drewN q'
            have ht1 : T.length = m2 := i6.len
            obtain ⟨Wq, hWq⟩ : ∃ Wq, w6.drewN q' = Wq := ⟨_, rfl⟩
            rw [hWq] at h1 h2 ⊢
            have HW := Lib.hid hWq
            clear hWq
            obtain ⟨b1, o1, rfl, _, hc1⟩ := h1.at_ hlt
            obtain ⟨b2, o2, rfl, _, hc2⟩ := h2.at_ hlt
            have hk1 := hc1 k hlt
            have hk2 := hc2 k hlt
            have hb1 := HsT.out.bd k (by omega)
            have hb2 := Hsz.out.bd k (by rw [hlen.out]; exact hlt)
            have had : bits .and .i64 (T[k]?.getD 0) (zs[k]?.getD 0) = 0 := (bits_and hb1.1 (by omega) hb2.1 (by omega)).trans (Hand.out k)
            clear hc1 hc2
            generalize T[k]?.getD 0 = x at *
            generalize zs[k]?.getD 0 = y at *
            go_wp2
            go_quiet (fail)
            go_wp2
            go_roundw
            case rel => exact ⟨k + 1, _, by omega, by go_num, by rw [← HW.out]; exact World.drewN_drewN ..⟩
            case measure => simp [intOf]; omega
          · obtain rfl : k = m2 := by omega
            have C7 : Below w.heap.size w (w6.drewN q') := below_drewN C6 _
            have hI7 : Ints (w6.drewN q') (w6.drewN q').heap.size A1 k zs := hI6.drewN q'
            have i7 : Ints (w6.drewN q') (w6.drewN q').heap.size A2 k T := i6.drewN q'
            obtain ⟨W7, hW7⟩ : ∃ W7, w6.drewN q' = W7 := ⟨_, rfl⟩
            rw [hW7] at C7 hI7 i7 ⊢
            clear hW7 hI6 i6 C6
            go_wp2_with fail
            refine (ValidOrder_any A2 k c2 T W7 i7 (by omega)).mono ?_
            rw [HvT.out]
            rintro e w8 ⟨rfl, hB8⟩
            have z8 := hB8.size
            have C8 := C7.trans (hB8.mono C7.size)
            have hI8 := hI7.to hB8 (Nat.le_refl _) z8
            have i8 := i7.to hB8 (Nat.le_refl _) z8
            clear hI7 i7 C7 hB8
            go_wp2_with fail
            refine (CountPairs_any A2 k c2 T w8 i8 (by omega)).mono ?_
            rw [Hcp.out]
            rintro e w9 ⟨rfl, hB9⟩
            have z9 := hB9.size
            have C9 := C8.trans (hB9.mono C8.size)
            have hI9 := hI8.to hB9 (Nat.le_refl _) z9
            clear hI8 i8 C8 hB9
            go_wp2_with fail
            refine (CountPairs_any A1 k c1 zs w9 hI9 (by omega)).mono ?_
            rw [Hcq.out]
            rintro e w10 ⟨rfl, hB10⟩
            have C10 := C9.trans (hB10.mono C9.size)
            go_wp2_with fail
            all_goals first
              | exact absurd (half_pairs hn6 hpq) (by assumption)
              | (go_ret; exact ⟨rfl, C10⟩)
  · go_enter Try.func8, Try.ntmps8
    go_wp2
    go_ret
    exact ⟨rfl, Below.refl _ _⟩
end Go.Proofs.Ytbhnkjclemeolaa
