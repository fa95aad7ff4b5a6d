/- Reading two orders and a list that rises; IsRising, FixedOf: the program's. -/
import Derived.Test.YtmlihbcffndnbaaMpJ
set_option linter.unusedVariables false
set_option linter.unusedSimpArgs false
namespace Go.Proofs.Ytmlihbcffndnbaa
open Go.RowKit Go.Shelf
attribute [local go_sem] Oper.semAt_some
attribute [local go_sem, local simp] wide_fn

set_option maxRecDepth 100000 in
set_option maxHeartbeats 2000000 in
theorem readRising_any (A : Option Addr) (n c : Nat) (zs : List Int) (A' : Option Addr) (m c' : Nat) (ys : List Int) (F : Option Addr) (k cf : Nat) (fs : List Int) (w : World) (h : Ints w w.heap.size A n zs) (h' : Ints w w.heap.size A' m ys) (hf : Ints w w.heap.size F k fs)
    (hbig : n ≤ 1152921504606846976) (hbig' : m ≤ 1152921504606846976) (hbigf : k ≤ 1152921504606846976) :
    Calls Try.prog 36 #[.slice A n c, .slice A' m c', .slice F k cf] w (ReadsT (risB zs ys fs) zs ys n m F k cf w) := by
  have hlen := Lib.hid h.len
  have hlen' := Lib.hid h'.len
  have hlenf := Lib.hid hf.len
  go_enter Try.func36, Try.ntmps36
  go_wp2_with fail
  have kh0 : (w.alloc (.cells #[.slice none 0 0, .slice none 0 0, .slice none 0 0] 44)).heap[w.heap.size]? = some (.cells #[.slice none 0 0, .slice none 0 0, .slice none 0 0] 44 (0, 0)) := heap_alloc_new w _
  have kB0 : Below w.heap.size w (w.alloc (.cells #[.slice none 0 0, .slice none 0 0, .slice none 0 0] 44)) := (Below.refl w.heap.size w).alloc (Nat.le_refl _) _
  have kz0 : w.heap.size < (w.alloc (.cells #[.slice none 0 0, .slice none 0 0, .slice none 0 0] 44)).heap.size := by simp
  obtain ⟨w1, hw1⟩ : ∃ w1, w.alloc (.cells #[.slice none 0 0, .slice none 0 0, .slice none 0 0] 44) = w1 := ⟨_, rfl⟩
  rw [hw1] at kh0 kB0 kz0 ⊢
  clear hw1
  have hle := Nat.le_of_lt kz0
  refine (readTaking_any A n c zs A' m c' ys F k cf fs w1 (h.to kB0 (Nat.le_refl _) hle) (h'.to kB0 (Nat.le_refl _) hle) (hf.to kB0 (Nat.le_refl _) hle) hbig hbig' hbigf).mono ?_
  rintro e w2 ⟨hB2, (⟨hm, b, b', rfl, hAr, hAr'⟩ | ⟨hm, rfl⟩)⟩
  · have kh2 := (hB2.block w.heap.size kz0).trans kh0
    have kB2 := kB0.trans (hB2.mono hle)
    have z2 := hB2.size
    obtain ⟨hvo, hvy, hln, hen⟩ := mp_parts hm
    have Hm := Lib.hid hm
    clear hm
    have hk6 : k ≤ 6 := by have := hvo.1; rw [← hln, hlenf.out] at this; exact this
    rw [hlen'.out] at hen
    have hArn : b ≠ w.heap.size := by
      rintro rfl
      have h1 := hAr
      unfold Arr at h1
      rw [kh2] at h1
      exact absurd h1 (by simp)
    have hArn' : b' ≠ w.heap.size := by
      rintro rfl
      have h1 := hAr'
      unfold Arr at h1
      rw [kh2] at h1
      exact absurd h1 (by simp)
    unfold tkV
    have kt2 : (w2.alloc (.cells #[.slice (some ⟨b, 0, none⟩) n n, .slice (some ⟨b', 0, none⟩) m m, .slice F k cf] 44)).heap[w2.heap.size]? = some (.cells #[.slice (some ⟨b, 0, none⟩) n n, .slice (some ⟨b', 0, none⟩) m m, .slice F k cf] 44 (0, 0)) := heap_alloc_new w2 _
    obtain ⟨c0, c1, c2, -, -, -⟩ := three_cells kt2
    go_wp2_with fail
    have kB3 := kB2.alloc (by omega) (.cells #[.slice (some ⟨b, 0, none⟩) n n, .slice (some ⟨b', 0, none⟩) m m, .slice F k cf] 44)
    have hA3 := hAr.alloc (.cells #[.slice (some ⟨b, 0, none⟩) n n, .slice (some ⟨b', 0, none⟩) m m, .slice F k cf] 44)
    have hA3' := hAr'.alloc (.cells #[.slice (some ⟨b, 0, none⟩) n n, .slice (some ⟨b', 0, none⟩) m m, .slice F k cf] 44)
    have kh3 := (Below.heap_alloc w2 (.cells #[.slice (some ⟨b, 0, none⟩) n n, .slice (some ⟨b', 0, none⟩) m m, .slice F k cf] 44) w.heap.size (by omega)).trans kh2
    have z3 : w2.heap.size < (w2.alloc (.cells #[.slice (some ⟨b, 0, none⟩) n n, .slice (some ⟨b', 0, none⟩) m m, .slice F k cf] 44)).heap.size := by simp
    obtain ⟨w3, hw3⟩ : ∃ w3, w2.alloc (.cells #[.slice (some ⟨b, 0, none⟩) n n, .slice (some ⟨b', 0, none⟩) m m, .slice F k cf] 44) = w3 := ⟨_, rfl⟩
    rw [hw3] at kt2 kB3 hA3 hA3' kh3 z3 c0 c1 c2 ⊢
    clear hw3
    have Hr := Lib.hid (tIsRising_any (some ⟨b, 0, none⟩) n zs (some ⟨b', 0, none⟩) m ys F k cf fs w3 (hA3.ints' hA3.lt hlen.out) (hA3'.ints' hA3'.lt hlen'.out) (hf.to kB3 (Nat.le_refl _) (by omega)) hvo.sets hvy.sets hen)
    unfold tkV at Hr
    cases hr : riB zs ys fs
    · have Hn := Lib.hid (show risB zs ys fs = false by unfold risB; rw [hr]; simp)
      rw [hr] at Hr
      clear hr
      refine Hr.out.mono ?_
      clear Hr
      rintro e w4 ⟨rfl, hB4⟩
      have kh4 := (hB4.block w.heap.size (by omega)).trans kh3
      have kB4 := kB3.trans (hB4.mono (by omega))
      obtain ⟨q0, q1, q2, g0, g1, g2⟩ := three_cells kh4
      have kh5 := three_set (y1 := .slice none 0 0) (y2 := .slice none 0 0) (y3 := .slice none 0 0) kh4
      go_wp2_with fail
      refine bodyPost_ret (v := .tuple #[.agg #[.slice none 0 0, .slice none 0 0, .slice none 0 0], .bool false]) (results_cell_row2 rfl _ _ w.heap.size _ _ (0, 0) _ _ rfl rfl kh5 Try.underlying44 rfl (by kernel_rfl)) rfl ?_
      exact ⟨((kB4.setCell (p := ⟨w.heap.size, 0, none⟩) (Nat.le_refl _) _).setCell (p := ⟨w.heap.size, 1, none⟩) (Nat.le_refl _) _).setCell (p := ⟨w.heap.size, 2, none⟩) (Nat.le_refl _) _, .inr ⟨Hn.out, rfl⟩⟩
    · have Hn := Lib.hid (show risB zs ys fs = true by unfold risB; rw [hr, Hm.out]; rfl)
      rw [hr] at Hr
      clear hr
      refine Hr.out.mono ?_
      clear Hr
      rintro e w4 ⟨rfl, hB4⟩
      have kh4 := (hB4.block w.heap.size (by omega)).trans kh3
      have kt4 := (hB4.block w2.heap.size (by omega)).trans kt2
      have kB4 := kB3.trans (hB4.mono (by omega))
      have hA4 := hA3.below hB4 hA3.lt
      have hA4' := hA3'.below hB4 hA3'.lt
      obtain ⟨q0, q1, q2, g0, g1, g2⟩ := three_cells kh4
      obtain ⟨r0, r1, r2, -, -, -⟩ := three_cells kt4
      have kh5 := three_set (y1 := .slice (some ⟨b, 0, none⟩) n n) (y2 := .slice (some ⟨b', 0, none⟩) m m) (y3 := .slice F k cf) kh4
      clear c0 c1 c2
      go_wp2_with fail
      refine bodyPost_ret (v := .tuple #[tkV (some ⟨b, 0, none⟩) n (some ⟨b', 0, none⟩) m F k cf, .bool true]) (results_cell_row2 rfl _ _ w.heap.size _ _ (0, 0) _ _ rfl rfl kh5 Try.underlying44 rfl (by kernel_rfl)) rfl ?_
      exact ⟨((kB4.setCell (p := ⟨w.heap.size, 0, none⟩) (Nat.le_refl _) _).setCell (p := ⟨w.heap.size, 1, none⟩) (Nat.le_refl _) _).setCell (p := ⟨w.heap.size, 2, none⟩) (Nat.le_refl _) _, .inl ⟨Hn.out, b, b', rfl,
        ((hA4.far (p := ⟨w.heap.size, 0, none⟩) hArn _).far (p := ⟨w.heap.size, 1, none⟩) hArn _).far (p := ⟨w.heap.size, 2, none⟩) hArn _, ((hA4'.far (p := ⟨w.heap.size, 0, none⟩) hArn' _).far (p := ⟨w.heap.size, 1, none⟩) hArn' _).far (p := ⟨w.heap.size, 2, none⟩) hArn' _⟩⟩
  · have kh2 := (hB2.block w.heap.size kz0).trans kh0
    have kB2 := kB0.trans (hB2.mono hle)
    have z2 := hB2.size
    have Hn := Lib.hid (show risB zs ys fs = false by unfold risB; rw [hm]; rfl)
    clear hm
    have kh3 := (Below.heap_alloc w2 (.cells #[.slice none 0 0, .slice none 0 0, .slice none 0 0] 44) w.heap.size (by omega)).trans kh2
    have kB3 := kB2.alloc (by omega) (.cells #[.slice none 0 0, .slice none 0 0, .slice none 0 0] 44)
    obtain ⟨q0, q1, q2, g0, g1, g2⟩ := three_cells kh3
    have kh5 := three_set (y1 := .slice none 0 0) (y2 := .slice none 0 0) (y3 := .slice none 0 0) kh3
    have kt2 : (w2.alloc (.cells #[.slice none 0 0, .slice none 0 0, .slice none 0 0] 44)).heap[w2.heap.size]? = some (.cells #[.slice none 0 0, .slice none 0 0, .slice none 0 0] 44 (0, 0)) := heap_alloc_new w2 _
    obtain ⟨c0, c1, c2, -, -, -⟩ := three_cells kt2
    go_wp2_with fail
    refine bodyPost_ret (v := .tuple #[.agg #[.slice none 0 0, .slice none 0 0, .slice none 0 0], .bool false]) (results_cell_row2 rfl _ _ w.heap.size _ _ (0, 0) _ _ rfl rfl kh5 Try.underlying44 rfl (by kernel_rfl)) rfl ?_
    exact ⟨((kB3.setCell (p := ⟨w.heap.size, 0, none⟩) (Nat.le_refl _) _).setCell (p := ⟨w.heap.size, 1, none⟩) (Nat.le_refl _) _).setCell (p := ⟨w.heap.size, 2, none⟩) (Nat.le_refl _) _, .inr ⟨Hn.out, rfl⟩⟩

set_option maxRecDepth 100000 in
theorem IsRising_any (A : Option Addr) (n c : Nat) (zs : List Int) (A' : Option Addr) (m c' : Nat) (ys : List Int) (F : Option Addr) (k cf : Nat) (fs : List Int) (w : World) (h : Ints w w.heap.size A n zs) (h' : Ints w w.heap.size A' m ys) (hf : Ints w w.heap.size F k fs)
    (hbig : n ≤ 1152921504606846976) (hbig' : m ≤ 1152921504606846976) (hbigf : k ≤ 1152921504606846976) :
    Calls Try.prog 14 #[.slice A n c, .slice A' m c', .slice F k cf] w fun e w' => e = .returned (.bool (risB zs ys fs)) ∧ Below w.heap.size w w' := by
  go_enter Try.func14, Try.ntmps14
  go_wp2_with fail
  refine (readRising_any A n c zs A' m c' ys F k cf fs w h h' hf hbig hbig' hbigf).mono ?_
  rintro e w2 ⟨hB2, (⟨hm, b, b', rfl, hAr, hAr'⟩ | ⟨hm, rfl⟩)⟩
  · have Hn := Lib.hid hm
    have z2 := hB2.size
    unfold tkV
    have kB3 := hB2.alloc (by omega) (.cells #[.slice (some ⟨b, 0, none⟩) n n, .slice (some ⟨b', 0, none⟩) m m, .slice F k cf] 44)
    clear hm
    go_wp2_with fail
    go_ret
    exact ⟨ret_bool Hn.out.symm, kB3⟩
  · have Hn := Lib.hid hm
    have z2 := hB2.size
    have kB3 := hB2.alloc (by omega) (.cells #[.slice none 0 0, .slice none 0 0, .slice none 0 0] 44)
    clear hm
    go_wp2_with fail
    go_ret
    exact ⟨ret_bool Hn.out.symm, kB3⟩

set_option maxRecDepth 100000 in
set_option maxHeartbeats 1000000 in
theorem tFixed_any (A : Option Addr) (n : Nat) (A' : Option Addr) (m : Nat) (F : Option Addr) (k cf : Nat) (fs : List Int) (w : World) (hf : Ints w w.heap.size F k fs) (he : endsB m fs = true) (hk6 : k ≤ 6) :
    Calls Try.prog 42 #[tkV A n A' m F k cf] w fun e w' => e = .returned (.int .i64 (fixTo fs k)) ∧ Below w.heap.size w w' := by
  have hlenf := Lib.hid hf.len
  unfold tkV
  go_enter Try.func42, Try.ntmps42
  have kt : (w.alloc (.cells #[.slice A n n, .slice A' m m, .slice F k cf] 44)).heap[w.heap.size]? = some (.cells #[.slice A n n, .slice A' m m, .slice F k cf] 44 (0, 0)) := heap_alloc_new w _
  obtain ⟨c0, c1, c2, -, -, -⟩ := three_cells kt
  have kB : Below w.heap.size w (w.alloc (.cells #[.slice A n n, .slice A' m m, .slice F k cf] 44)) := (Below.refl w.heap.size w).alloc (Nat.le_refl _) _
  have kF := hf.below kB
  go_wp2
  obtain ⟨w1, hw1⟩ : ∃ w1, w.alloc (.cells #[.slice A n n, .slice A' m m, .slice F k cf] 44) = w1 := ⟨_, rfl⟩
  rw [hw1] at kB kF ⊢
  clear hw1 kt c0 c1 c2
  go_loopw [3, 9] (fun s i wr => ∃ j : Nat, j ≤ k ∧ i = .int .i64 j ∧ s = .int .i64 (fixTo fs j) ∧ wr = w1) (fun _ i _ => k - (intOf i).toNat)
  case atStart => exact ⟨0, by omega, rfl, rfl, rfl⟩
  case round =>
    obtain ⟨j, hj, rfl, rfl, rfl⟩ := hrel
    have hbd := fixTo_bd fs j
    have hpj := powI_le6 (n := (j : Int)) (by omega)
    by_cases hlt : j < k
    · obtain ⟨bf, off, rfl, _, hcf⟩ := kF.at_ hlt
      have hcj := hcf j hlt
      obtain ⟨e1, l1⟩ := ends_it he (k := j) (by rw [hlenf.out]; exact hlt)
      rw [e1] at hcj
      clear hcf e1
      have hw := fun w => with_any (fixTo fs j) (j : Int) w (by omega) (by omega) (by omega) (by omega)
      by_cases hjj : itN fs j = j
      · have Hs := Lib.hid (show fixTo fs (j + 1) = orI (fixTo fs j) (powI j) by rw [fixTo]; simp [hjj])
        have hq : ((j : Int) == (itN fs j : Int)) = true := by simp; omega
        generalize itN fs j = x at *
        generalize fixTo fs j = s at *
        obtain ⟨s2, hs2⟩ : ∃ s2, fixTo fs (j + 1) = s2 := ⟨_, rfl⟩
        rw [hs2] at Hs
        rw [← Hs.out] at hw
        have Hjj := Lib.hid hjj
        have HS2 := Lib.hid hs2
        clear hjj hs2
        go_wp2_with (go_at_call 63; refine (hw _).mono ?_; rintro e w' ⟨rfl, rfl⟩)
        go_roundw
        case rel => exact ⟨j + 1, by omega, by go_num, by rw [HS2.out], trivial⟩
        case measure => simp [intOf]; omega
      · have Hs := Lib.hid (show fixTo fs (j + 1) = fixTo fs j by rw [fixTo]; simp [hjj])
        have hq : ((j : Int) == (itN fs j : Int)) = false := by simp; omega
        generalize itN fs j = x at *
        have Hjj := Lib.hid hjj
        clear hjj
        go_wp2
        go_roundw
        case rel => exact ⟨j + 1, by omega, by go_num, by rw [Hs.out], trivial⟩
        case measure => simp [intOf]; omega
    · obtain rfl : j = k := by omega
      go_wp2
      go_ret
      exact ⟨rfl, kB⟩

set_option maxRecDepth 100000 in
theorem FixedOf_any (A : Option Addr) (n c : Nat) (zs : List Int) (F : Option Addr) (k cf : Nat) (fs : List Int) (w : World) (h : Ints w w.heap.size A n zs) (hf : Ints w w.heap.size F k fs)
    (hbig : n ≤ 1152921504606846976) (hbigf : k ≤ 1152921504606846976) :
    Calls Try.prog 19 #[.slice A n c, .slice F k cf] w fun e w' => e = .returned (.int .i64 (fixedR zs fs)) ∧ Below w.heap.size w w' := by
  have hlen := Lib.hid h.len
  have hlenf := Lib.hid hf.len
  go_enter Try.func19, Try.ntmps19
  go_wp2_with fail
  refine (readRising_any A n c zs A n c zs F k cf fs w h h hf hbig hbig hbigf).mono ?_
  rintro e w2 ⟨hB2, (⟨hm, b, b', rfl, hAr, hAr'⟩ | ⟨hm, rfl⟩)⟩
  · have hm2 : mpB zs zs fs = true := by unfold risB at hm; rw [Bool.and_eq_true] at hm; exact hm.1
    obtain ⟨hvo, hvy, hln, hen⟩ := mp_parts hm2
    rw [hlen.out, hlenf.out] at hln
    rw [hlen.out] at hen
    have Hn := Lib.hid (show fixedR zs fs = fixTo fs k by unfold fixedR; rw [hm, hlen.out, hln]; rfl)
    have hk6 : k ≤ 6 := by have := hvo.1; rw [hlen.out] at this; omega
    have Hln := Lib.hid hln
    clear hm hm2 hln
    have z2 := hB2.size
    unfold tkV
    have kB3 := hB2.alloc (by omega) (.cells #[.slice (some ⟨b, 0, none⟩) n n, .slice (some ⟨b', 0, none⟩) n n, .slice F k cf] 44)
    have kt3 : (w2.alloc (.cells #[.slice (some ⟨b, 0, none⟩) n n, .slice (some ⟨b', 0, none⟩) n n, .slice F k cf] 44)).heap[w2.heap.size]? = some (.cells #[.slice (some ⟨b, 0, none⟩) n n, .slice (some ⟨b', 0, none⟩) n n, .slice F k cf] 44 (0, 0)) := heap_alloc_new w2 _
    obtain ⟨c0, c1, c2, -, -, -⟩ := three_cells kt3
    go_wp2_with fail
    have z3 : w2.heap.size < (w2.alloc (.cells #[.slice (some ⟨b, 0, none⟩) n n, .slice (some ⟨b', 0, none⟩) n n, .slice F k cf] 44)).heap.size := by simp
    have hx := tFixed_any (some ⟨b, 0, none⟩) n (some ⟨b', 0, none⟩) n F k cf fs _ (hf.to kB3 (Nat.le_refl _) (by omega)) hen hk6
    unfold tkV at hx
    refine hx.mono ?_
    clear hx
    rintro e w4 ⟨rfl, hB4⟩
    go_wp2_with fail
    go_ret
    exact ⟨ret_int Hn.out.symm, kB3.trans (hB4.mono (by omega))⟩
  · have Hn := Lib.hid (show fixedR zs fs = -1 by unfold fixedR; rw [hm]; rfl)
    have z2 := hB2.size
    have kB3 := hB2.alloc (by omega) (.cells #[.slice none 0 0, .slice none 0 0, .slice none 0 0] 44)
    clear hm
    go_wp2_with fail
    go_ret
    exact ⟨ret_int Hn.out.symm, kB3⟩
end Go.Proofs.Ytmlihbcffndnbaa
