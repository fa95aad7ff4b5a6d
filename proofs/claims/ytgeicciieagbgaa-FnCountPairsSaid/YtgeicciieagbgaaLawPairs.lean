/- CountPairs' own law: pairs are as many turned round, as chains of two, and no more than there are pairs of items. -/
import Derived.Test.YtgeicciieagbgaaDrCountPairs
import Derived.Test.YtgeicciieagbgaaCount
import Derived.Test.YtgeicciieagbgaaCch
import Derived.Test.YtgeicciieagbgaaDual
import Derived.Test.YtgeicciieagbgaaDualM
namespace Go.Proofs.Ytgeicciieagbgaa
open Go.RowKit Go.Shelf

set_option maxRecDepth 100000 in
set_option maxHeartbeats 8000000 in
theorem fnCountPairs_walk (A : Option Addr) (m c : Nat) (bs : List Int) (w : World) (h : Byts w w.heap.size A m bs) (hcap : m ≤ c) :
    Calls Try.prog 6 #[.slice A m c] w fun e w' => e = .returned (.bool true) ∧ Below w.heap.size w w' := by
  by_cases hs : m ≤ 1048576
  · go_enter Try.func6, Try.ntmps6
    go_wp2_with fail
    refine (drawCountPairs_any A m c bs w h hcap (by omega)).mono ?_
    rintro e w1 ⟨A1, n, c1, zs, rfl, hn7, hI1, C1⟩
    have hlen := Lib.hid hI1.len
    cases hv : vo zs
    · have HL := Lib.hid (show countR zs = -1 by unfold countR; rw [hv]; rfl)
      clear hv
      go_wp2_with fail
      refine (CountPairs_any A1 n c1 zs w1 hI1 (by omega)).mono ?_
      rw [HL.out]
      rintro e w2 ⟨rfl, hB2⟩
      have z2 := hB2.size
      have C2 := C1.trans (hB2.mono C1.size)
      have hI2 := hI1.to hB2 (Nat.le_refl _) z2
      clear hI1 hB2 C1
      go_wp2_with fail
      refine (below_quiet (specCountPairs_any A1 n c1 _ zs w2 hI2 (by omega))).mono ?_
      rw [HL.out]
      rintro e w3 ⟨rfl, hB3⟩
      have z3 := hB3.size
      have C3 := C2.trans (hB3.mono C2.size)
      have hI3 := hI2.to hB3 (Nat.le_refl _) z3
      clear hI2 hB3 C2
      go_wp2_with fail
      refine (below_quiet (specCountPairs_any A1 n c1 _ zs w3 hI3 (by omega))).mono ?_
      rw [HL.out]
      rintro e w4 ⟨rfl, hB4⟩
      have z4 := hB4.size
      have C4 := C3.trans (hB4.mono C3.size)
      have hI4 := hI3.to hB4 (Nat.le_refl _) z4
      clear hI3 hB4 C3
      go_wp2_with fail
      go_ret
      exact ⟨rfl, C4⟩
    · have hvo : VoP zs := by simpa [vo] using hv
      clear hv
      have hn6 : n ≤ 6 := by have := hvo.1; rw [hlen.out] at this; exact this
      obtain ⟨K, hK⟩ := Int.eq_ofNat_of_zero_le (longI_nn zs)
      have hK6 : K ≤ 6 := by have h1 := longI_bd hvo; rw [hlen.out] at h1; omega
      obtain ⟨Q, hQ⟩ : ∃ Q, prs zs = Q := ⟨_, rfl⟩
      have hQn : 2 * Q + n ≤ n * n := by have := prs_bd hvo; rw [hQ, hlen.out] at this; exact this
      have HL := Lib.hid (show countR zs = (Q : Int) by unfold countR; rw [vo_true hvo]; simp only [if_true]; rw [popTo_prs hvo.sets, hQ])
      have HD := Lib.hid (show dualR zs = du zs by unfold dualR; rw [vo_true hvo]; rfl)
      have HDL := Lib.hid (show countR (du zs) = (Q : Int) by unfold countR; rw [vo_true (du_vo hvo)]; simp only [if_true]; rw [popTo_prs (du_vo hvo).sets, du_prs hvo, hQ])
      have HDN := Lib.hid (du_len zs)
      have HC := Lib.hid (show (chainsR zs).length = K + 1 by rw [chains_len hvo, hK]; rfl)
      have H2 := Lib.hid (show 2 ≤ K → (chainsR zs)[2]?.getD 0 = (Q : Int) by intro e; rw [chains_two hvo (by omega), hQ])
      have H1 := Lib.hid (show K ≤ 1 → Q = 0 by intro e; rw [← hQ]; exact prs_none hvo (by omega))
      have hq0 : Q ≤ 15 := by rcases (show n = 0 ∨ n = 1 ∨ n = 2 ∨ n = 3 ∨ n = 4 ∨ n = 5 ∨ n = 6 by omega) with rfl | rfl | rfl | rfl | rfl | rfl | rfl <;> omega
      have Hqn := Lib.hid hQn
      clear hK hQn hQ
      go_wp2_with fail
      refine (CountPairs_any A1 n c1 zs w1 hI1 (by omega)).mono ?_
      rw [HL.out]
      rintro e w2 ⟨rfl, hB2⟩
      have z2 := hB2.size
      have C2 := C1.trans (hB2.mono C1.size)
      have hI2 := hI1.to hB2 (Nat.le_refl _) z2
      clear hI1 hB2 C1
      go_wp2_with fail
      refine (below_quiet (specCountPairs_any A1 n c1 _ zs w2 hI2 (by omega))).mono ?_
      rw [HL.out]
      rintro e w3 ⟨rfl, hB3⟩
      have z3 := hB3.size
      have C3 := C2.trans (hB3.mono C2.size)
      have hI3 := hI2.to hB3 (Nat.le_refl _) z3
      clear hI2 hB3 C2
      go_wp2_with fail
      refine (CountChains_any A1 n c1 zs w3 hI3 (by omega)).mono ?_
      rintro e w4 ⟨A4, m4, c4, rfl, r4, hB4⟩
      have z4 := hB4.size
      have C4 := C3.trans (hB4.mono C3.size)
      have hI4 := hI3.to hB4 (Nat.le_refl _) z4
      have hc4 := r4.ints (B := w4.heap.size) (Nat.le_refl _)
      have e4 := r4.len
      clear hI3 hB4 C3 r4
      rw [HC.out] at e4
      subst e4
      go_wp2_with fail
      refine (DualOf_any A1 n c1 zs w4 hI4 (by omega)).mono ?_
      rintro e w5 ⟨A5, m5, c5, rfl, r5, hB5⟩
      have z5 := hB5.size
      have C5 := C4.trans (hB5.mono C4.size)
      have hI5 := hI4.to hB5 (Nat.le_refl _) z5
      have hc5 := hc4.to hB5 (Nat.le_refl _) z5
      have hd5 := r5.ints (B := w5.heap.size) (Nat.le_refl _)
      have e5 := r5.len
      clear hI4 hc4 hB5 C4 r5
      rw [HD.out] at hd5 e5
      rw [HDN.out, hlen.out] at e5
      subst e5
      go_wp2_with fail
      refine (CountPairs_any A5 _ c5 (du zs) w5 hd5 (by omega)).mono ?_
      rw [HDL.out]
      rintro e w6 ⟨rfl, hB6⟩
      have z6 := hB6.size
      have C6 := C5.trans (hB6.mono C5.size)
      have hI6 := hI5.to hB6 (Nat.le_refl _) z6
      have hc6 := hc5.to hB6 (Nat.le_refl _) z6
      have hd6 := hd5.to hB6 (Nat.le_refl _) z6
      clear hI5 hc5 hd5 hB6 C5
      by_cases hK2 : 2 ≤ K
      · obtain ⟨b2, off2, rfl, -, hcc⟩ := hc6.at_ (k := 2) (by omega)
        have hc2 := hcc 2 (by omega)
        rw [H2.out hK2] at hc2
        clear hcc hc6
        rcases (show n = 0 ∨ n = 1 ∨ n = 2 ∨ n = 3 ∨ n = 4 ∨ n = 5 ∨ n = 6 by omega) with rfl | rfl | rfl | rfl | rfl | rfl | rfl <;> (have hqn := Hqn.out; go_wp2_with fail; go_ret; exact ⟨rfl, C6⟩)
      · obtain rfl := H1.out (by omega)
        rcases (show n = 0 ∨ n = 1 ∨ n = 2 ∨ n = 3 ∨ n = 4 ∨ n = 5 ∨ n = 6 by omega) with rfl | rfl | rfl | rfl | rfl | rfl | rfl <;> (have hqn := Hqn.out; go_wp2_with fail; go_ret; exact ⟨rfl, C6⟩)
  · go_enter Try.func6, Try.ntmps6
    go_wp2
    go_ret
    exact ⟨rfl, Below.refl _ _⟩
end Go.Proofs.Ytgeicciieagbgaa
