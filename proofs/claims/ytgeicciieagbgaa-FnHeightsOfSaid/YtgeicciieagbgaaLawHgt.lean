/- HeightsOf's own law: heights rise, and the greatest is one less than the longest chain. -/
import Derived.Test.YtgeicciieagbgaaDrHeightsOf
import Derived.Test.YtgeicciieagbgaaGreat
import Derived.Test.YtgeicciieagbgaaHeights
import Derived.Test.YtgeicciieagbgaaLongI
import Derived.Test.YtgeicciieagbgaaEqI
namespace Go.Proofs.Ytgeicciieagbgaa
open Go.RowKit Go.Shelf

set_option maxRecDepth 100000 in
set_option maxHeartbeats 8000000 in
theorem fnHeightsOf_walk (A : Option Addr) (m c : Nat) (bs : List Int) (w : World) (h : Byts w w.heap.size A m bs) (hcap : m ≤ c) :
    Calls Try.prog 5 #[.slice A m c] w fun e w' => e = .returned (.bool true) ∧ Below w.heap.size w w' := by
  by_cases hs : m ≤ 1048576
  · go_enter Try.func5, Try.ntmps5
    go_wp2_with fail
    refine (drawHeightsOf_any A m c bs w h hcap (by omega)).mono ?_
    rintro e w1 ⟨A1, n, c1, zs, rfl, hn7, hI1, hB1⟩
    have z1 := hB1.size
    have hlen := Lib.hid hI1.len
    go_wp2_with fail
    refine (HeightsOf_any A1 n c1 zs w1 hI1 (by omega)).mono ?_
    rintro e w2 ⟨A2, m2, c2, rfl, r2, hB2⟩
    have z2 := hB2.size
    have C2 := hB1.trans (hB2.mono z1)
    have hI2 := hI1.to hB2 (Nat.le_refl _) z2
    go_wp2_with fail
    refine (specHeightsOf_any A1 n c1 zs w2 hI2 (by omega)).mono ?_
    rintro e w3 ⟨A3, m3, c3, rfl, r3, hB3⟩
    have z3 := hB3.size
    have C3 := C2.trans (hB3.mono (by omega))
    have hI3 := hI2.to hB3 (Nat.le_refl _) z3
    have i2 := (r2.below hB3 (Nat.le_refl _)).ints (B := w3.heap.size) z3
    have i3 := r3.ints (B := w3.heap.size) (Nat.le_refl _)
    have hl2 := r2.len
    have hl3 := r3.len
    have hle := heightsR_le zs
    have hdz : decide (heightsR zs = heightsR zs) = true := by simp
    clear hI1 hI2 r2 r3
    go_wp2_with fail
    refine (equalInts_any _ _ _ _ _ _ _ _ _ _ _ i2 i3 (by omega) (by omega)).mono ?_
    rintro e w4 ⟨rfl, q4, rfl⟩
    by_cases hm0 : m2 = 0
    · subst hm0
      go_wp2_with fail
      refine (specHeightsOf_any A1 n c1 zs _ ((hI3.drewN q4).more (by simp)) (by omega)).mono ?_
      rintro e w5 ⟨A5, m5, c5, rfl, r5, hB5⟩
      have z5 : w3.heap.size ≤ w5.heap.size := hB5.size
      have i25 := (i2.drewN q4).below hB5
      have i5 := r5.ints (B := w5.heap.size) (Nat.le_refl _)
      have hl5 := r5.len
      go_wp2_with fail
      refine (equalInts_any _ _ _ _ _ _ _ _ _ _ _ i25 i5 (by omega) (by omega)).mono ?_
      rintro e w6 ⟨rfl, q6, rfl⟩
      go_wp2_with fail
      go_ret
      exact ⟨rfl, below_drewN ((below_drewN C3 q4).trans (hB5.mono (by simp; omega))) q6⟩
    · have hvo : VoP zs := by
        cases hv : vo zs with
        | true => simpa [vo] using hv
        | false => exfalso; unfold heightsR at hl2; rw [hv] at hl2; simp at hl2; omega
      have hR : heightsR zs = (List.range n).map (hgt zs) := by unfold heightsR; rw [vo_true hvo, hlen.out]; rfl
      have hmn : m2 = n := by rw [← hl2, hR]; simp
      subst hmn
      have hn6 : m2 ≤ 6 := by have := hvo.1; rw [hlen.out] at this; exact this
      have Hlong := Lib.hid (topI_long hvo (by rw [hlen.out]; omega))
      rw [hlen.out, ← hR] at Hlong
      have hcells : ∀ j, j < m2 → (heightsR zs)[j]?.getD 0 = hgt zs j := fun j hj => by rw [hR]; exact hgts_get hj
      clear hl2 hl3 hR hle
      have hm0b : ((m2 : Int) == 0) = false := by simpa using hm0
      go_wp2_with fail
      go_loopw [5] (fun i wr => ∃ k q : Nat, k ≤ m2 ∧ i = .int .i64 k ∧ wr = w3.drewN q) (fun i _ => m2 - (intOf i).toNat)
      case atStart => exact ⟨0, q4, by omega, rfl, rfl⟩
      case round =>
        obtain ⟨k, q, hk, rfl, rfl⟩ := hrel
        by_cases hlt : k < m2
        · go_wp2
          go_loopw [6] (fun i wr => ∃ j q : Nat, j ≤ m2 ∧ i = .int .i64 j ∧ wr = w3.drewN q) (fun i _ => m2 - (intOf i).toNat)
          case atStart => exact ⟨0, q, by omega, rfl, rfl⟩
          case round =>
            obtain ⟨j, q, hj, rfl, rfl⟩ := hrel
            by_cases hjn : j < m2
            · obtain ⟨b1, off1, rfl, -, hc1⟩ := hI3.at_ hlt
              have hck := hc1 k hlt
              obtain ⟨b2, off2, rfl, -, hc2⟩ := i2.at_ hlt
              have hhk := hc2 k hlt
              have hhj := hc2 j hjn
              rw [hcells k hlt] at hhk
              rw [hcells j hjn] at hhj
              have hzb := hvo.bd k (by rw [hlen.out]; exact hlt)
              have hup : bitB (zs[k]?.getD 0) j = true → hgt zs k + 1 ≤ hgt zs j := fun hb => hgt_up hvo ⟨by rw [hlen.out]; exact hlt, hb⟩
              clear hc1 hc2 i2 i3 hI3 hcells
              generalize zs[k]?.getD 0 = z at *
              generalize hgt zs k = gk at *
              generalize hgt zs j = gj at *
              cases hb : bitB z j
              · have hcall : ∀ w, Calls Try.prog 31 #[.int .i64 z, .int .i64 (j : Int)] w fun e w' => e = .returned (.bool false) ∧ w = w' := fun w => by
                  have := hasBit_any z j w (by omega) (by omega) (by omega) (by omega)
                  rw [hb] at this; exact this
                clear hup
                go_wp2
                go_quiet ((go_at_call 31; exact quiet_add_left (hcall _)))
                go_wp2
                go_roundw
                case rel => exact ⟨j + 1, _, by omega, by go_num, rfl⟩
                case measure => simp [intOf]; omega
              · have hcall : ∀ w, Calls Try.prog 31 #[.int .i64 z, .int .i64 (j : Int)] w fun e w' => e = .returned (.bool true) ∧ w = w' := fun w => by
                  have := hasBit_any z j w (by omega) (by omega) (by omega) (by omega)
                  rw [hb] at this; exact this
                have hgg := hup hb
                have hnle : ¬ gj ≤ gk := by omega
                clear hup
                go_wp2
                go_quiet ((go_at_call 31; exact quiet_add_left (hcall _)))
                go_wp2
                go_roundw
                case rel => exact ⟨j + 1, _, by omega, by go_num, rfl⟩
                case measure => simp [intOf]; omega
            · obtain rfl : j = m2 := by omega
              go_wp2
              go_roundw
              case rel => exact ⟨k + 1, q, by omega, by go_num, rfl⟩
              case measure => simp [intOf]; omega
        · obtain rfl : k = m2 := by omega
          go_wp2_with fail
          refine (greatestOfL_any _ _ _ _ _ _ (i2.drewN q) (by omega)).mono ?_
          rintro e w5 ⟨rfl, rfl⟩
          rw [Hlong.out]
          have hLR : longR zs = longI zs := by unfold longR; rw [vo_true hvo]; rfl
          have hl0 := longI_nn zs
          have hl1 := longI_bd hvo
          rw [hlen.out] at hl1
          go_wp2_with fail
          refine (LongestChain_any _ _ _ zs _ ((hI3.drewN q).more (by simp)) (by omega)).mono ?_
          rw [hLR]
          rintro e w6 ⟨rfl, hB6⟩
          go_wp2_with fail
          go_ret
          exact ⟨rfl, (below_drewN C3 q).trans (hB6.mono (by simp; omega))⟩
  · go_enter Try.func5, Try.ntmps5
    go_wp2
    go_ret
    exact ⟨rfl, Below.refl _ _⟩
end Go.Proofs.Ytgeicciieagbgaa
