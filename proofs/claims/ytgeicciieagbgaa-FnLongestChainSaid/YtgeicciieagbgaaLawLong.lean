/- LongestChain's own law: the longest chain is as many as the levels, and turned round; the counts of chains end with it. -/
import Derived.Test.YtgeicciieagbgaaDrLongestChain
import Derived.Test.YtgeicciieagbgaaLongS
import Derived.Test.YtgeicciieagbgaaLongI
import Derived.Test.YtgeicciieagbgaaLvs
import Derived.Test.YtgeicciieagbgaaCch
import Derived.Test.YtgeicciieagbgaaDual
import Derived.Test.YtgeicciieagbgaaDualM
namespace Go.Proofs.Ytgeicciieagbgaa
open Go.RowKit Go.Shelf

set_option maxRecDepth 100000 in
set_option maxHeartbeats 8000000 in
theorem fnLongestChain_walk (A : Option Addr) (m c : Nat) (bs : List Int) (w : World) (h : Byts w w.heap.size A m bs) (hcap : m ≤ c) :
    Calls Try.prog 9 #[.slice A m c] w fun e w' => e = .returned (.bool true) ∧ Below w.heap.size w w' := by
  by_cases hs : m ≤ 1048576
  · go_enter Try.func9, Try.ntmps9
    go_wp2_with fail
    refine (drawLongestChain_any A m c bs w h hcap (by omega)).mono ?_
    rintro e w1 ⟨A1, n, c1, zs, rfl, hn7, hI1, C1⟩
    have hlen := Lib.hid hI1.len
    cases hv : vo zs
    · have HL := Lib.hid (show longR zs = -1 by unfold longR; rw [hv]; rfl)
      clear hv
      go_wp2_with fail
      refine (LongestChain_any A1 n c1 zs w1 hI1 (by omega)).mono ?_
      rw [HL.out]
      rintro e w2 ⟨rfl, hB2⟩
      have z2 := hB2.size
      have C2 := C1.trans (hB2.mono C1.size)
      have hI2 := hI1.to hB2 (Nat.le_refl _) z2
      clear hI1 hB2 C1
      go_wp2_with fail
      refine (specLongestChainF_any A1 n c1 zs w2 hI2 (by omega)).mono ?_
      rw [HL.out]
      rintro e w3 ⟨rfl, hB3⟩
      have z3 := hB3.size
      have C3 := C2.trans (hB3.mono C2.size)
      have hI3 := hI2.to hB3 (Nat.le_refl _) z3
      clear hI2 hB3 C2
      go_wp2_with fail
      refine (specLongestChainF_any A1 n c1 zs w3 hI3 (by omega)).mono ?_
      rw [HL.out]
      rintro e w4 ⟨rfl, hB4⟩
      have z4 := hB4.size
      have C4 := C3.trans (hB4.mono C3.size)
      have hI4 := hI3.to hB4 (Nat.le_refl _) z4
      clear hI3 hB4 C3
      go_wp2_with fail
      go_ret
      exact ⟨rfl, C4⟩
    · have hvo : VoP zs := by simpa [vo] using hv
      clear hv
      obtain ⟨K, hK⟩ := Int.eq_ofNat_of_zero_le (longI_nn zs)
      have hK6 : K ≤ 6 := by have h1 := longI_bd hvo; have h2 := hvo.1; omega
      have HL := Lib.hid (show longR zs = (K : Int) by unfold longR; rw [vo_true hvo, ← hK]; rfl)
      have HV := Lib.hid (show (levelsR zs).length = K by unfold levelsR; rw [vo_true hvo]; simp only [if_true]; rw [lvTo_len, hK]; rfl)
      have HD := Lib.hid (show dualR zs = du zs by unfold dualR; rw [vo_true hvo]; rfl)
      have HDL := Lib.hid (show longR (du zs) = (K : Int) by unfold longR; rw [vo_true (du_vo hvo), du_long hvo, ← hK]; rfl)
      have HDN := Lib.hid (du_len zs)
      have HC := Lib.hid (show (chainsR zs).length = K + 1 by rw [chains_len hvo, hK]; rfl)
      clear hK
      go_wp2_with fail
      refine (LongestChain_any A1 n c1 zs w1 hI1 (by omega)).mono ?_
      rw [HL.out]
      rintro e w2 ⟨rfl, hB2⟩
      have z2 := hB2.size
      have C2 := C1.trans (hB2.mono C1.size)
      have hI2 := hI1.to hB2 (Nat.le_refl _) z2
      clear hI1 hB2 C1
      go_wp2_with fail
      refine (specLongestChainF_any A1 n c1 zs w2 hI2 (by omega)).mono ?_
      rw [HL.out]
      rintro e w3 ⟨rfl, hB3⟩
      have z3 := hB3.size
      have C3 := C2.trans (hB3.mono C2.size)
      have hI3 := hI2.to hB3 (Nat.le_refl _) z3
      clear hI2 hB3 C2
      go_wp2_with fail
      refine (LevelParts_any A1 n c1 zs w3 hI3 (by omega)).mono ?_
      rintro e w4 ⟨A4, m4, c4, rfl, r4, hB4⟩
      have z4 := hB4.size
      have C4 := C3.trans (hB4.mono C3.size)
      have hI4 := hI3.to hB4 (Nat.le_refl _) z4
      have hv4 := r4.ints (B := w4.heap.size) (Nat.le_refl _)
      have e4 := r4.len
      clear hI3 hB4 C3 r4
      rw [HV.out] at e4
      subst e4
      go_wp2_with fail
      refine (DualOf_any A1 n c1 zs w4 hI4 (by omega)).mono ?_
      rintro e w5 ⟨A5, m5, c5, rfl, r5, hB5⟩
      have z5 := hB5.size
      have C5 := C4.trans (hB5.mono C4.size)
      have hI5 := hI4.to hB5 (Nat.le_refl _) z5
      have hv5 := hv4.to hB5 (Nat.le_refl _) z5
      have hd5 := r5.ints (B := w5.heap.size) (Nat.le_refl _)
      have e5 := r5.len
      clear hI4 hv4 hB5 C4 r5
      rw [HD.out] at hd5 e5
      rw [HDN.out, hlen.out] at e5
      subst e5
      go_wp2_with fail
      refine (LongestChain_any A5 _ c5 (du zs) w5 hd5 (by omega)).mono ?_
      rw [HDL.out]
      rintro e w6 ⟨rfl, hB6⟩
      have z6 := hB6.size
      have C6 := C5.trans (hB6.mono C5.size)
      have hI6 := hI5.to hB6 (Nat.le_refl _) z6
      have hv6 := hv5.to hB6 (Nat.le_refl _) z6
      have hd6 := hd5.to hB6 (Nat.le_refl _) z6
      clear hI5 hv5 hd5 hB6 C5
      by_cases hn0 : n = 0
      · subst hn0
        go_wp2_with fail
        go_ret
        exact ⟨rfl, C6⟩
      · have hnb : ((n : Int) == 0) = false := by simpa using hn0
        go_wp2_with fail
        refine (CountChains_any A1 n c1 zs w6 hI6 (by omega)).mono ?_
        rintro e w7 ⟨A7, m7, c7, rfl, r7, hB7⟩
        have z7 := hB7.size
        have C7 := C6.trans (hB7.mono C6.size)
        have hI7 := hI6.to hB7 (Nat.le_refl _) z7
        have hv7 := hv6.to hB7 (Nat.le_refl _) z7
        have hd7 := hd6.to hB7 (Nat.le_refl _) z7
        have hc7 := r7.ints (B := w7.heap.size) (Nat.le_refl _)
        have e7 := r7.len
        clear hI6 hv6 hd6 hB7 C6 r7
        rw [HC.out] at e7
        subst e7
        go_wp2_with fail
        go_ret
        exact ⟨rfl, C7⟩
  · go_enter Try.func9, Try.ntmps9
    go_wp2
    go_ret
    exact ⟨rfl, Below.refl _ _⟩
end Go.Proofs.Ytgeicciieagbgaa
