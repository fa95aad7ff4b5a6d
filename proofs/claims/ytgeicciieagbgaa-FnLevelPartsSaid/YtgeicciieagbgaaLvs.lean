/- LevelParts: the model's and the program's. -/
import Derived.Test.YtgeicciieagbgaaWide
import Derived.StillTailTactics
namespace Go.Proofs.Ytgeicciieagbgaa
open Go.RowKit Go.Shelf

theorem lvTo_at {zs : List Int} {n k : Nat} (hlen : zs.length = n) (hk : k < n) : (hgt zs k).toNat < (lvTo zs k).length := by
  have h1 := longI_gt (zs := zs) (a := k) (by omega)
  have h2 := hgt_nn zs k
  rw [lvTo_len]; omega
theorem lvTo_succ (zs : List Int) (k : Nat) : lvTo zs (k + 1) = (lvTo zs k).set (hgt zs k).toNat (orI ((lvTo zs k)[(hgt zs k).toNat]?.getD 0) (powI k)) := rfl

set_option maxRecDepth 100000 in
set_option maxHeartbeats 4000000 in
theorem specLevelPartsF_any (A : Option Addr) (n c : Nat) (zs : List Int) (w : World) (h : Ints w w.heap.size A n zs) (hbig : n ≤ 1152921504606846976) :
    Calls Try.prog 48 #[.slice A n c] w (GivesRow w (levelsR zs)) := by
  have hlen := Lib.hid h.len
  cases hv : vo zs
  · have Ht := Lib.hid (show levelsR zs = [] by unfold levelsR; rw [hv]; rfl)
    go_enter Try.func48, Try.ntmps48
    go_wp2_with (go_at_call 68; refine (validOrder_any _ _ _ _ zs _ h hbig).mono ?_; rintro e w' ⟨rfl, m, rfl⟩)
    go_ret
    exact ⟨none, 0, 0, rfl, by rw [Ht.out]; exact Row.nil _ _ _ _, below_drewN (Below.refl _ _) _⟩
  · have hvo : VoP zs := by simpa [vo] using hv
    have hn6 : n ≤ 6 := by have := hvo.1; rw [hlen.out] at this; exact this
    have Ht := Lib.hid (show levelsR zs = lvTo zs n by unfold levelsR; rw [hv, hlen.out]; rfl)
    have hl0 := longI_nn zs
    have hl1 := longI_bd hvo
    rw [hlen.out] at hl1
    have hlo := fun w h => longest_any A n c zs w h hvo
    obtain ⟨m, hm⟩ := Int.eq_ofNat_of_zero_le hl0
    rw [hm] at hl1
    simp only [hm] at hlo
    have Hm := Lib.hid (show (longI zs).toNat = m by omega)
    clear hm hl0
    have hmk := run_make_row' (P := Try.prog) 23 3 (.int .i64 0) 8 Try.underlying23 infoInt rfl .i64 .i64 m (by omega) (by omega)
    go_enter Try.func48, Try.ntmps48
    go_wp2_with fail
    refine (validOrder_any _ _ _ _ zs _ h hbig).mono ?_
    rintro e w1 ⟨rfl, m1, hm1⟩
    have hB : Below w.heap.size w w1 := by rw [hm1]; exact below_drewN (Below.refl _ _) _
    have z1 := hB.size
    clear hm1
    go_wp2_with fail
    refine (hlo _ ((h.below hB).more (by omega))).mono ?_
    rintro e w2 ⟨rfl, hB2⟩
    have C2 := hB.trans (hB2.mono z1)
    have z2 := C2.size
    go_wp2_with fail
    have hA1 := Arr.new w2 3 m
    have hB3 : Below w2.heap.size w2 (w2.alloc (.cells (madeCells #[.int .i64 0] m) 3)) := (Below.refl _ _).alloc (Nat.le_refl _) _
    obtain ⟨w3, hw3⟩ : ∃ w3, w2.alloc (.cells (madeCells #[.int .i64 0] m) 3) = w3 := ⟨_, rfl⟩
    rw [hw3] at hA1 hB3 ⊢
    clear hw3 hmk
    have C3 := C2.trans (hB3.mono z2)
    have z3 := C3.size
    have l1 := hA1.lt
    refine (levels_any A n c zs w3 ((h.below C3).more z3) hvo).mono ?_
    rintro e w4 ⟨rfl, hH, hB4⟩
    have hA2 := hA1.below hB4 l1
    have C4 := C3.trans (hB4.mono z3)
    go_wp2_with fail
    go_loopw [5] (fun i wr => ∃ k : Nat, k ≤ n ∧ i = .int .i64 k ∧ Arr wr w2.heap.size 3 (lvTo zs k) ∧ Arr wr w3.heap.size 3 ((List.range n).map (hgt zs)) ∧ Below w.heap.size w wr) (fun i _ => n - (intOf i).toNat)
    case atStart => exact ⟨0, by omega, rfl, by rw [lvTo, Hm.out]; exact hA2, hH, C4⟩
    case round =>
      obtain ⟨k, hk, rfl, hAr, hHr, hBr⟩ := hrel
      by_cases hlt : k < n
      · have hck := hHr.cell (k := k) (by simpa using hlt)
        rw [hgts_get hlt] at hck
        have hat := lvTo_at hlen.out hlt
        have hb0 := hgt_nn zs k
        have Hs := Lib.hid (lvTo_succ zs k)
        have hll := lvTo_len zs k
        rw [Hm.out] at hll
        obtain ⟨x, hx⟩ := Int.eq_ofNat_of_zero_le hb0
        have hob := lvTo_bd zs k x
        have hpk : powI k ≤ 64 := powI_le6 (by omega)
        have hpp := powI_pos k
        rw [hx] at hck hat Hs
        simp only [Int.toNat_natCast] at hat Hs
        have hcs := hAr.cell (k := x) hat
        have hfs := hAr.frozen x
        rw [hll] at hat
        clear hx hb0
        have hpw : ∀ w, Calls Try.prog 96 #[.int .i64 (k : Int)] w fun e w' => e = .returned (.int .i64 (powI k)) ∧ w' = w := fun w => (power_any _ _ (by omega) (by omega)).mono fun _ _ ⟨h1, h2⟩ => ⟨h1, h2.symm⟩
        generalize lvTo zs k = D at *
        generalize D[x]?.getD 0 = dx at *
        have hor : bits .or .i64 dx (powI k) = orI dx (powI k) := bits_or (by omega) (by omega) (by omega) (by omega)
        go_wp2
        obtain ⟨W2, hW2⟩ : ∃ W2, wr.drew = W2 := ⟨_, rfl⟩
        have kck : W2.cell? ⟨w3.heap.size, k, none⟩ = some (.int .i64 (x : Int)) := by rw [← hW2]; exact hck
        have kcs : W2.cell? ⟨w2.heap.size, x, none⟩ = some (.int .i64 dx) := by rw [← hW2]; exact hcs
        have kfs : W2.frozen? ⟨w2.heap.size, x, none⟩ = false := by rw [← hW2]; exact hfs
        have kAr : Arr W2 w2.heap.size 3 D := by rw [← hW2]; exact hAr
        have kHr : Arr W2 w3.heap.size 3 ((List.range n).map (hgt zs)) := by rw [← hW2]; exact hHr
        have kB : Below w.heap.size w W2 := by rw [← hW2]; exact hBr.drew
        refine wp_region_still_tail 16 (by kernel_rfl) (by kernel_rfl) ?_
        simp only [List.take_succ_cons, List.take_zero, List.drop_succ_cons, List.drop_zero]
        change wpStill _ _ wr.drew (fun a' => wpList _ _ _ _ a' wr.drew) _ _
        rw [hW2]
        clear hW2 hck hcs hfs hAr hHr hBr
        repeat (first | still_step | still_call (hpw _))
        refine wpStill_nil ?_
        go_wp2
        go_roundw
        case rel => exact ⟨k + 1, by omega, by go_num, by rw [Hs.out, ← hor]; exact kAr.set _ _, kHr.far (by simp; omega) _, kB.setCell (p := ⟨w2.heap.size, x, none⟩) (by simp; omega) _⟩
        case measure => simp [intOf]; omega
      · obtain rfl : k = n := by omega
        have hll := lvTo_len zs k
        rw [Hm.out] at hll
        have l2 := hAr.lt
        go_wp2
        go_ret
        exact ⟨_, m, m, rfl, by rw [Ht.out]; exact Row.of hAr hll (by omega) l2, hBr⟩

set_option maxRecDepth 100000 in
set_option maxHeartbeats 4000000 in
theorem olevels_any (A : Option Addr) (n c : Nat) (zs : List Int) (hvo : VoP zs) (w : World) (h : Ints w w.heap.size A n zs) :
    Calls Try.prog 95 #[.slice A n c] w fun e w' => ∃ b, e = .returned (.slice (some ⟨b, 0, none⟩) (longI zs).toNat (longI zs).toNat) ∧ Arr w' b 54 (lvTo zs n) ∧ w.heap.size ≤ b ∧ Below w.heap.size w w' := by
  have hlen := Lib.hid h.len
  have hn6 : n ≤ 6 := by have := hvo.1; rw [hlen.out] at this; exact this
  have hl0 := longI_nn zs
  have hl1 := longI_bd hvo
  rw [hlen.out] at hl1
  have hgr := gr_long hvo
  unfold setsN at hgr
  rw [hlen.out] at hgr
  have hlo := fun w h => greatestOf_any 72 enters_chain A n c zs (chB zs) hn6 w h (tests_chain A n c zs hvo)
  obtain ⟨m, hm⟩ := Int.eq_ofNat_of_zero_le hl0
  rw [hm] at hl1
  simp only [hgr, hm] at hlo
  rw [hm]
  simp only [Int.toNat_natCast]
  have Hm := Lib.hid (show (longI zs).toNat = m by omega)
  clear hm hl0 hgr
  have hmk := run_make_row' (P := Try.prog) 48 54 (.int .i64 0) 8 Try.underlying48 infoItems rfl .i64 .i64 m (by omega) (by omega)
  go_enter Try.func95, Try.ntmps95
  go_wp2_with fail
  refine (hlo _ h).mono ?_
  rintro e w2 ⟨rfl, hB2⟩
  have z2 := hB2.size
  go_wp2_with fail
  have hA1 := Arr.new w2 54 m
  have hB3 : Below w2.heap.size w2 (w2.alloc (.cells (madeCells #[.int .i64 0] m) 54)) := (Below.refl _ _).alloc (Nat.le_refl _) _
  obtain ⟨w3, hw3⟩ : ∃ w3, w2.alloc (.cells (madeCells #[.int .i64 0] m) 54) = w3 := ⟨_, rfl⟩
  rw [hw3] at hA1 hB3 ⊢
  clear hw3 hmk
  have C3 := hB2.trans (hB3.mono z2)
  have z3 := C3.size
  have l1 := hA1.lt
  refine (heights_any A n c zs hvo w3 ((h.below C3).more z3)).mono ?_
  rintro e w4 ⟨rfl, hH, hB4⟩
  have hA2 := hA1.below hB4 l1
  have C4 := C3.trans (hB4.mono z3)
  go_wp2_with fail
  go_loopw [14] (fun i wr => ∃ k : Nat, k ≤ n ∧ i = .int .i64 k ∧ Arr wr w2.heap.size 54 (lvTo zs k) ∧ Arr wr w3.heap.size 3 ((List.range n).map (hgt zs)) ∧ Below w.heap.size w wr) (fun i _ => n - (intOf i).toNat)
  case atStart => exact ⟨0, by omega, rfl, by rw [lvTo, Hm.out]; exact hA2, hH, C4⟩
  case round =>
    obtain ⟨k, hk, rfl, hAr, hHr, hBr⟩ := hrel
    by_cases hlt : k < n
    · have hck := hHr.cell (k := k) (by simpa using hlt)
      rw [hgts_get hlt] at hck
      have hat := lvTo_at hlen.out hlt
      have hb0 := hgt_nn zs k
      have Hs := Lib.hid (lvTo_succ zs k)
      have hll := lvTo_len zs k
      rw [Hm.out] at hll
      obtain ⟨x, hx⟩ := Int.eq_ofNat_of_zero_le hb0
      have hob := lvTo_bd zs k x
      have hpk : powI k ≤ 64 := powI_le6 (by omega)
      have hpp := powI_pos k
      rw [hx] at hck hat Hs
      simp only [Int.toNat_natCast] at hat Hs
      have hcs := hAr.cell (k := x) hat
      have hfs := hAr.frozen x
      rw [hll] at hat
      clear hx hb0
      generalize lvTo zs k = D at *
      generalize D[x]?.getD 0 = dx at *
      have hwi : ∀ w, Calls Try.prog 79 #[.int .i64 dx, .int .i64 (k : Int)] w fun e w' => e = .returned (.int .i64 (orI dx (powI k))) ∧ w = w' := fun w => with_any _ _ _ (by omega) (by omega) (by omega) (by omega)
      go_wp2_with (go_at_call 79; refine (hwi _).mono ?_; rintro e w' ⟨rfl, rfl⟩)
      go_roundw
      case rel => exact ⟨k + 1, by omega, by go_num, by rw [Hs.out]; exact hAr.set _ _, hHr.far (by simp; omega) _, hBr.setCell (p := ⟨w2.heap.size, x, none⟩) (by simp; omega) _⟩
      case measure => simp [intOf]; omega
    · obtain rfl : k = n := by omega
      go_wp2
      go_ret
      exact ⟨_, rfl, hAr, by omega, hBr⟩

theorem LevelParts_any (A : Option Addr) (n c : Nat) (zs : List Int) (w : World) (h : Ints w w.heap.size A n zs) (hbig : n ≤ 1152921504606846976) :
    Calls Try.prog 46 #[.slice A n c] w (GivesRow w (levelsR zs)) := by
  have hlen := Lib.hid h.len
  cases hv : vo zs
  · have Ht := Lib.hid (show levelsR zs = [] by unfold levelsR; rw [hv]; rfl)
    have Hv := Lib.hid hv
    clear hv
    go_enter Try.func46, Try.ntmps46
    go_wp2_with fail
    refine (readOrder_any _ _ _ zs _ h hbig).mono ?_
    rintro e w' ⟨hB, (⟨hv, b, rfl, _, _⟩ | ⟨_, rfl⟩)⟩
    · rw [Hv.out] at hv; cases hv
    · go_wp2_with fail
      go_ret
      exact ⟨none, 0, 0, rfl, by rw [Ht.out]; exact Row.nil _ _ _ _, hB⟩
  · have hvo : VoP zs := by simpa [vo] using hv
    have hn6 : n ≤ 6 := by have := hvo.1; rw [hlen.out] at this; exact this
    have Ht := Lib.hid (show levelsR zs = lvTo zs n by unfold levelsR; rw [hv, hlen.out]; rfl)
    have hl0 := longI_nn zs
    have hl1 := longI_bd hvo
    rw [hlen.out] at hl1
    have hll := lvTo_len zs n
    have Hv := Lib.hid hv
    clear hv
    go_enter Try.func46, Try.ntmps46
    go_wp2_with fail
    refine (readOrder_any _ _ _ zs _ h hbig).mono ?_
    rintro e w1 ⟨hB, (⟨_, b, rfl, hb, hAr⟩ | ⟨hv, _⟩)⟩
    · have z1 := hB.size
      go_wp2_with fail
      refine (olevels_any _ _ _ zs hvo _ (hAr.ints' hAr.lt hlen.out)).mono ?_
      rintro e w2 ⟨b2, rfl, hA2, hb2, hB2⟩
      have z2 := hB2.size
      have hm6 : (longI zs).toNat ≤ 6 := by omega
      generalize (longI zs).toNat = m at *
      go_wp2_with fail
      refine (list_any _ _ _ _ _ (hA2.ints' hA2.lt hll) (by omega)).mono ?_
      rintro e w3 ⟨rfl, hA3, hB3⟩
      go_wp2_with fail
      go_ret
      exact ⟨_, m, m, rfl, by rw [Ht.out]; exact Row.of hA3 hll (by omega) hA3.lt, (hB.trans (hB2.mono z1)).trans (hB3.mono (by omega))⟩
    · rw [Hv.out] at hv; cases hv
theorem levelsR_le (zs : List Int) : (levelsR zs).length ≤ 1048576 := by
  unfold levelsR
  cases hv : vo zs
  · simp
  · have hvo : VoP zs := by simpa [vo] using hv
    have h1 := hvo.1
    have h2 := longI_bd hvo
    simp [lvTo_len]
    omega
end Go.Proofs.Ytgeicciieagbgaa
