/- IsRising, FixedOf: the model's, whole. -/
import Derived.Test.YtmlihbcffndnbaaGxc
set_option linter.unusedVariables false
set_option linter.unusedSimpArgs false
namespace Go.Proofs.Ytmlihbcffndnbaa
open Go.RowKit Go.Shelf
attribute [local go_sem] Oper.semAt_some
attribute [local go_sem, local simp] wide_fn

set_option maxRecDepth 100000 in
set_option maxHeartbeats 1000000 in
theorem specIsRisingF_any (A : Option Addr) (n c : Nat) (zs : List Int) (A' : Option Addr) (m c' : Nat) (ys : List Int) (F : Option Addr) (k cf : Nat) (fs : List Int) (w : World) (h : Ints w w.heap.size A n zs) (h' : Ints w w.heap.size A' m ys) (hf : Ints w w.heap.size F k fs)
    (hbig : n ≤ 1152921504606846976) (hbig' : m ≤ 1152921504606846976) (hbigf : k ≤ 1152921504606846976) :
    Calls Try.prog 12 #[.slice A n c, .slice A' m c', .slice F k cf] w fun e w' => e = .returned (.bool (risB zs ys fs)) ∧ Below w.heap.size w w' := by
  have hlen := Lib.hid h.len
  have hlen' := Lib.hid h'.len
  have hlenf := Lib.hid hf.len
  go_enter Try.func12, Try.ntmps12
  cases hm : mpB zs ys fs
  · have Hn := Lib.hid (show risB zs ys fs = false by unfold risB; rw [hm]; rfl)
    go_wp2_with fail
    refine (svalidMap_any A n c zs A' m c' ys F k cf fs w h h' hf hbig hbig' hbigf).mono ?_
    rw [hm]
    rintro e w' ⟨rfl, q, rfl⟩
    clear hm
    go_wp2_with fail
    go_ret
    exact ⟨ret_bool (by first | (rw [Hn.out]; done) | simp [Hn.out]), below_drewN (Below.refl _ _) q⟩
  · obtain ⟨hvo, hvy, hln, hen⟩ := mp_parts hm
    rw [hlen.out, hlenf.out] at hln
    subst hln
    rw [hlen'.out] at hen
    have Hm := Lib.hid hm
    clear hm
    have Hr := Lib.hid (fun q => sisRising_any A k c zs A' m c' ys F cf w.heap.size fs (w.drewN q) (h.drewN q) (h'.drewN q) (hf.drewN q) hvo.sets hvy.sets hen)
    have Hn := Lib.hid (show risB zs ys fs = riB zs ys fs by unfold risB; rw [Hm.out]; rfl)
    go_wp2_with fail
    refine (svalidMap_any A k c zs A' m c' ys F k cf fs w h h' hf hbig hbig' hbigf).mono ?_
    rw [Hm.out]
    rintro e w' ⟨rfl, q, rfl⟩
    go_wp2_with fail
    refine (Hr.out q).mono ?_
    rintro e w' ⟨rfl, q2, rfl⟩
    go_wp2_with fail
    go_ret
    exact ⟨ret_bool (by first | (rw [Hn.out]; done) | simp [Hn.out]), below_drewN (Below.refl _ _) _⟩

set_option maxRecDepth 100000 in
set_option maxHeartbeats 1000000 in
theorem specFixedOfF_any (A : Option Addr) (n c : Nat) (zs : List Int) (F : Option Addr) (k cf : Nat) (fs : List Int) (w : World) (h : Ints w w.heap.size A n zs) (hf : Ints w w.heap.size F k fs)
    (hbig : n ≤ 1152921504606846976) (hbigf : k ≤ 1152921504606846976) :
    Calls Try.prog 18 #[.slice A n c, .slice F k cf] w fun e w' => e = .returned (.int .i64 (fixedR zs fs)) ∧ Below w.heap.size w w' := by
  have hlen := Lib.hid h.len
  have hlenf := Lib.hid hf.len
  go_enter Try.func18, Try.ntmps18
  cases hm : mpB zs zs fs
  · have Hn := Lib.hid (show fixedR zs fs = -1 by unfold fixedR risB; rw [hm]; rfl)
    go_wp2_with fail
    refine (svalidMap_any A n c zs A n c zs F k cf fs w h h hf hbig hbig hbigf).mono ?_
    rw [hm]
    rintro e w' ⟨rfl, q, rfl⟩
    clear hm
    go_wp2_with fail
    go_ret
    exact ⟨ret_int Hn.out.symm, below_drewN (Below.refl _ _) q⟩
  · obtain ⟨hvo, hvy, hln, hen⟩ := mp_parts hm
    rw [hlen.out, hlenf.out] at hln
    subst hln
    rw [hlen.out] at hen
    have hk6 : k ≤ 6 := by have := hvo.1; rw [hlen.out] at this; exact this
    have Hm := Lib.hid hm
    clear hm
    have Hr := Lib.hid (fun q => sisRising_any A k c zs A k c zs F cf w.heap.size fs (w.drewN q) (h.drewN q) (h.drewN q) (hf.drewN q) hvo.sets hvy.sets hen)
    cases hr : riB zs zs fs
    · have Hn := Lib.hid (show fixedR zs fs = -1 by unfold fixedR risB; rw [Hm.out, hr]; rfl)
      rw [hr] at Hr
      clear hr
      go_wp2_with fail
      refine (svalidMap_any A k c zs A k c zs F k cf fs w h h hf hbig hbig hbigf).mono ?_
      rw [Hm.out]
      rintro e w' ⟨rfl, q, rfl⟩
      go_wp2_with fail
      refine (Hr.out q).mono ?_
      rintro e w' ⟨rfl, q2, rfl⟩
      go_wp2_with fail
      go_ret
      exact ⟨ret_int Hn.out.symm, below_drewN (Below.refl _ _) _⟩
    · have Hn := Lib.hid (show fixedR zs fs = fixTo fs k by unfold fixedR risB; rw [Hm.out, hr, hlen.out]; rfl)
      rw [hr] at Hr
      clear hr
      go_wp2_with fail
      refine (svalidMap_any A k c zs A k c zs F k cf fs w h h hf hbig hbig hbigf).mono ?_
      rw [Hm.out]
      rintro e w' ⟨rfl, q, rfl⟩
      go_wp2_with fail
      refine (Hr.out q).mono ?_
      rintro e w' ⟨rfl, q2, rfl⟩
      go_wp2_with fail
      have hF2 : Ints (w.drewN (q + q2)) w.heap.size F k fs := hf.drewN (q + q2)
      have kB : Below w.heap.size w (w.drewN (q + q2)) := below_drewN (Below.refl _ _) (q + q2)
      generalize w.drewN (q + q2) = w1 at *
      clear Hr
      go_loopw [5, 6] (fun s i wr => ∃ j q : Nat, j ≤ k ∧ i = .int .i64 j ∧ s = .int .i64 (fixTo fs j) ∧ wr = w1.drewN q) (fun _ i _ => k - (intOf i).toNat)
      case atStart => exact ⟨0, 0, by omega, rfl, rfl, rfl⟩
      case round =>
        obtain ⟨j, q3, hj, rfl, rfl, rfl⟩ := hrel
        have hbd := fixTo_bd fs j
        have hpj := powI_le6 (n := (j : Int)) (by omega)
        have hpj0 := powI_pos (j : Int)
        by_cases hlt : j < k
        · obtain ⟨bf, off, rfl, _, hcf⟩ := hF2.at_ hlt
          have hcj := hcf j hlt
          obtain ⟨e1, l1⟩ := ends_it hen (k := j) (by rw [hlenf.out]; exact hlt)
          rw [e1] at hcj
          clear hcf e1
          have hq := fun w => power_any (j : Int) w (by omega) (by omega)
          by_cases hjj : itN fs j = j
          · have Hs := Lib.hid (show fixTo fs (j + 1) = orI (fixTo fs j) (powI j) by rw [fixTo]; simp [hjj])
            have hq2 : ((itN fs j : Int) == (j : Int)) = true := by simp; omega
            have ho : bits .or .i64 (fixTo fs j) (powI j) = orI (fixTo fs j) (powI j) := bits_or (by omega) (by omega) (by omega) (by omega)
            rw [← Hs.out] at ho
            generalize itN fs j = x at *
            generalize hS2 : fixTo fs (j + 1) = s2 at *
            generalize fixTo fs j = s at *
            have HS2 := Lib.hid hS2
            have Hjj := Lib.hid hjj
            clear hjj hS2
            go_wp2_with (go_at_call 41; refine (hq _).mono ?_; rintro e w' ⟨rfl, rfl⟩)
            go_roundw
            case rel => exact ⟨j + 1, _, by omega, by go_num, by rw [HS2.out], rfl⟩
            case measure => simp [intOf]; omega
          · have Hs := Lib.hid (show fixTo fs (j + 1) = fixTo fs j by rw [fixTo]; simp [hjj])
            have hq2 : ((itN fs j : Int) == (j : Int)) = false := by simp; omega
            generalize itN fs j = x at *
            have Hjj := Lib.hid hjj
            clear hjj
            go_wp2_with (go_at_call 41; refine (hq _).mono ?_; rintro e w' ⟨rfl, rfl⟩)
            go_roundw
            case rel => exact ⟨j + 1, _, by omega, by go_num, by rw [Hs.out], rfl⟩
            case measure => simp [intOf]; omega
        · obtain rfl : j = k := by omega
          go_wp2
          go_ret
          exact ⟨ret_int Hn.out.symm, below_drewN kB q3⟩
end Go.Proofs.Ytmlihbcffndnbaa
