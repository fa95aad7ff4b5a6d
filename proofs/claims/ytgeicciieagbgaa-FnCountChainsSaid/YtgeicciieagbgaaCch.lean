/- CountChains: the model's and the program's. -/
import Derived.Test.YtgeicciieagbgaaWide
namespace Go.Proofs.Ytgeicciieagbgaa
open Go.RowKit Go.Shelf

set_option maxRecDepth 100000 in
set_option maxHeartbeats 4000000 in
theorem specCountChainsF_any (A : Option Addr) (n c : Nat) (zs : List Int) (w : World) (h : Ints w w.heap.size A n zs) (hbig : n ≤ 1152921504606846976) :
    Calls Try.prog 51 #[.slice A n c] w (GivesRow w (chainsR zs)) := by
  have hlen := Lib.hid h.len
  cases hv : vo zs
  · have Ht := Lib.hid (show chainsR zs = [] by unfold chainsR; rw [hv]; rfl)
    go_enter Try.func51, Try.ntmps51
    go_wp2_with (go_at_call 68; refine (validOrder_any _ _ _ _ zs _ h hbig).mono ?_; rintro e w' ⟨rfl, m, rfl⟩)
    go_ret
    exact ⟨none, 0, 0, rfl, by rw [Ht.out]; exact Row.nil _ _ _ _, below_drewN (Below.refl _ _) _⟩
  · have hvo : VoP zs := by simpa [vo] using hv
    have hn6 : n ≤ 6 := by have := hvo.1; rw [hlen.out] at this; exact this
    have Ht := Lib.hid (show chainsR zs = cntTo (chB zs) ((longI zs).toNat + 1) (2 ^ n) by unfold chainsR setsN; rw [hv, hlen.out]; rfl)
    have hcl : ∀ j : Nat, j < 2 ^ n → chB zs (j : Int) = true → popI (j : Int) ≤ longI zs := fun j hj hc => chain_le hvo (by omega) (by rw [setsN_pow]; unfold setsN; rw [hlen.out]; omega) hc
    have hl0 := longI_nn zs
    have hl1 := longI_bd hvo
    rw [hlen.out] at hl1
    have hlo := fun w h => longest_any A n c zs w h hvo
    obtain ⟨m, hm⟩ := Int.eq_ofNat_of_zero_le hl0
    rw [hm] at hl1
    simp only [hm] at hlo hcl
    rw [show (longI zs).toNat = m by omega] at Ht
    clear hm hl0
    have hp6 : (2 : Nat) ^ n ≤ 2 ^ 6 := Nat.pow_le_pow_right (by decide) hn6
    have hN : powI n = ((2 ^ n : Nat) : Int) := by simp [powI]
    generalize (2 : Nat) ^ n = N at *
    have Hcl := Lib.hid hcl
    clear hcl
    have hmk := run_make_row' (P := Try.prog) 23 3 (.int .i64 0) 8 Try.underlying23 infoInt rfl .i64 .i64 (m + 1) (by omega) (by omega)
    rw [Int.natCast_add, Int.cast_ofNat_Int] at hmk
    go_enter Try.func51, Try.ntmps51
    go_wp2_with fail
    refine (validOrder_any _ _ _ _ zs _ h hbig).mono ?_
    rintro e w1 ⟨rfl, m1, hm1⟩
    have hB : Below w.heap.size w w1 := by rw [hm1]; exact below_drewN (Below.refl _ _) _
    have z1 := hB.size
    clear hm1
    go_wp2_with fail
    refine (hlo _ ((h.below hB).more (by omega))).mono ?_
    rintro e w2 ⟨rfl, hB2⟩
    have C2 := hB.trans (hB2.mono z1)
    have z2 := C2.size
    go_wp2_with fail
    have hA1 := Arr.new w2 3 (m + 1)
    have hB3 : Below w2.heap.size w2 (w2.alloc (.cells (madeCells #[.int .i64 0] (m + 1)) 3)) := (Below.refl _ _).alloc (Nat.le_refl _) _
    obtain ⟨w3, hw3⟩ : ∃ w3, w2.alloc (.cells (madeCells #[.int .i64 0] (m + 1)) 3) = w3 := ⟨_, rfl⟩
    rw [hw3] at hA1 hB3 ⊢
    clear hw3 hmk
    have C3 := C2.trans (hB3.mono z2)
    have z3 := C3.size
    have l1 := hA1.lt
    go_loopw [4] (fun i wr => ∃ k : Nat, k ≤ N ∧ i = .int .i64 k ∧ Arr wr w2.heap.size 3 (cntTo (chB zs) (m + 1) k) ∧ Below w.heap.size w wr) (fun i _ => N - (intOf i).toNat)
    case atStart => exact ⟨0, by omega, rfl, by rw [cntTo]; exact hA1, C3⟩
    case round =>
      obtain ⟨k, hk, rfl, hAr, hBr⟩ := hrel
      have zr := hBr.size
      have hI := h.below hBr
      by_cases hlt : k < N
      · have hpb := popI_bd (s := (k : Int)) (by omega) (by omega)
        have hlc := cntTo_len (chB zs) (m + 1) k
        cases hc : chB zs (k : Int)
        · have Hn := Lib.hid (show cntTo (chB zs) (m + 1) (k + 1) = cntTo (chB zs) (m + 1) k by simp [cntTo, hc])
          go_wp2_with (first
            | (go_at_call 96; refine (power_any _ _ (by omega) (by omega)).mono ?_; rintro e w' ⟨rfl, rfl⟩)
            | (go_at_call 91; refine (specIsChain_any _ _ _ w.heap.size zs k hvo.sets _ hI zr (by omega) (by omega)).mono ?_; rintro e w5 ⟨rfl, hB5⟩))
          go_roundw
          case rel => exact ⟨k + 1, by omega, by go_num, by rw [Hn.out]; exact hAr.below hB5 hAr.lt, hBr.trans (hB5.mono zr)⟩
          case measure => simp [intOf]; omega
        · have hle := Hcl.out k hlt hc
          have Hn := Lib.hid (show cntTo (chB zs) (m + 1) (k + 1) = (cntTo (chB zs) (m + 1) k).set (popI (k : Int)).toNat ((cntTo (chB zs) (m + 1) k)[(popI (k : Int)).toNat]?.getD 0 + 1) by rw [cntTo, if_pos hc])
          have hcb := cnt_small (chB zs) (m + 1) k (by omega) (popI (k : Int)).toNat
          have hbi : ∀ w, Calls Try.prog 84 #[.int .i64 (k : Int)] w fun e w' => e = .returned (.int .i64 (popI (k : Int))) ∧ w = w' := fun w => bits_any _ _ (by omega) (by omega)
          obtain ⟨x, hx⟩ := Int.eq_ofNat_of_zero_le hpb.1
          rw [hx] at hle hcb Hn
          simp only [hx] at hbi
          simp only [Int.toNat_natCast] at hcb Hn
          clear hpb hx
          generalize cntTo (chB zs) (m + 1) k = D at *
          generalize hdx : D[x]?.getD 0 = dx at *
          have Hdx := Lib.hid hdx
          clear hdx
          go_wp2_with (go_at_call 96; refine (power_any _ _ (by omega) (by omega)).mono ?_; rintro e w' ⟨rfl, rfl⟩)
          refine (specIsChain_any _ _ _ w.heap.size zs k hvo.sets _ hI zr (by omega) (by omega)).mono ?_
          rw [hc]
          rintro e w5 ⟨rfl, hB5⟩
          have hAr5 := hAr.below hB5 hAr.lt
          have hBr5 := hBr.trans (hB5.mono zr)
          have hcs := hAr5.cell (k := x) (by rw [hlc]; omega)
          rw [Hdx.out] at hcs
          have hfs := hAr5.frozen x
          go_wp2_with (go_at_call 84; refine (hbi _).mono ?_; rintro e w' ⟨rfl, rfl⟩)
          go_roundw
          case rel => exact ⟨k + 1, by omega, by go_num, by rw [Hn.out]; exact hAr5.set _ _, hBr5.setCell (p := ⟨w2.heap.size, x, none⟩) (by simp; omega) _⟩
          case measure => simp [intOf]; omega
      · obtain rfl : k = N := by omega
        have hll := cntTo_len (chB zs) (m + 1) k
        have l2 := hAr.lt
        go_wp2_with (go_at_call 96; refine (power_any _ _ (by omega) (by omega)).mono ?_; rintro e w' ⟨rfl, rfl⟩)
        go_ret
        exact ⟨_, m + 1, m + 1, rfl, by rw [Ht.out]; exact Row.of hAr hll (by omega) l2, hBr⟩

theorem CountChains_any (A : Option Addr) (n c : Nat) (zs : List Int) (w : World) (h : Ints w w.heap.size A n zs) (hbig : n ≤ 1152921504606846976) :
    Calls Try.prog 35 #[.slice A n c] w (GivesRow w (chainsR zs)) := by
  have hlen := Lib.hid h.len
  cases hv : vo zs
  · have Ht := Lib.hid (show chainsR zs = [] by unfold chainsR; rw [hv]; rfl)
    have Hv := Lib.hid hv
    clear hv
    go_enter Try.func35, Try.ntmps35
    go_wp2_with fail
    refine (readOrder_any _ _ _ zs _ h hbig).mono ?_
    rintro e w' ⟨hB, (⟨hv, b, rfl, _, _⟩ | ⟨_, rfl⟩)⟩
    · rw [Hv.out] at hv; cases hv
    · go_wp2_with fail
      go_ret
      exact ⟨none, 0, 0, rfl, by rw [Ht.out]; exact Row.nil _ _ _ _, hB⟩
  · have hvo : VoP zs := by simpa [vo] using hv
    have hn6 : n ≤ 6 := by have := hvo.1; rw [hlen.out] at this; exact this
    have hgr := gr_long hvo
    have htk := chains_take hvo
    have Ht := Lib.hid (show chainsR zs = (cntTo (chB zs) (n + 1) (2 ^ n)).take ((grTo (chB zs) (2 ^ n)).toNat + 1) by
      unfold chainsR; unfold setsN at *; rw [hlen.out] at *; rw [hv, hgr, htk]; rfl)
    have Hv := Lib.hid hv
    clear hv hgr htk
    go_enter Try.func35, Try.ntmps35
    go_wp2_with fail
    refine (readOrder_any _ _ _ zs _ h hbig).mono ?_
    rintro e w1 ⟨hB, (⟨_, b, rfl, hb, hAr⟩ | ⟨hv, _⟩)⟩
    · have z1 := hB.size
      go_wp2_with fail
      refine (countSets_any 72 enters_chain _ _ _ zs (chB zs) hn6 _ (hAr.ints' hAr.lt hlen.out) (tests_chain _ _ _ zs hvo)).mono ?_
      rintro e w2 ⟨b2, c2, rfl, hA2, hb2, hm2, hB2⟩
      go_wp2_with fail
      go_ret
      exact ⟨_, _, c2, rfl, by rw [Ht.out]; exact Row.cut hA2 hm2 (by omega) hA2.lt, hB.trans (hB2.mono z1)⟩
    · rw [Hv.out] at hv; cases hv
theorem chainsR_le (zs : List Int) : (chainsR zs).length ≤ 1048576 := by
  unfold chainsR
  cases hv : vo zs
  · simp
  · have hvo : VoP zs := by simpa [vo] using hv
    have h1 := hvo.1
    have h2 := longI_bd hvo
    simp [cntTo_len]
    omega
end Go.Proofs.Ytgeicciieagbgaa
