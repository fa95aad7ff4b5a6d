/- FixedOf's own law: they are just those that the list leaves as they are. -/
import Derived.Test.YtmlihbcffndnbaaDrFixedOf
import Derived.Test.YtmlihbcffndnbaaMpO
import Derived.Test.YtmlihbcffndnbaaGxc
import Derived.Test.YtmlihbcffndnbaaGxf
set_option linter.unusedVariables false
set_option linter.unusedSimpArgs false
namespace Go.Proofs.Ytmlihbcffndnbaa
open Go.RowKit Go.Shelf
attribute [local go_sem] Oper.semAt_some
attribute [local go_sem, local simp] wide_fn

set_option maxRecDepth 100000 in
set_option maxHeartbeats 8000000 in
theorem fnFixedOf_walk (A : Option Addr) (m c : Nat) (bs : List Int) (w : World) (h : Byts w w.heap.size A m bs) (hcap : m ≤ c) :
    Calls Try.prog 9 #[.slice A m c] w fun e w' => e = .returned (.bool true) ∧ Below w.heap.size w w' := by
  by_cases hs : m ≤ 1048576
  · go_enter Try.func9, Try.ntmps9
    go_wp2_with fail
    refine (drawFixedOf_any A m c bs w h hcap (by omega)).mono ?_
    rintro e w1 ⟨A1, n, c1, zs, Af, cf, fs, rfl, hn7, hI1, hF1, C1⟩
    have hlen := Lib.hid hI1.len
    have hlen3 := Lib.hid hF1.len
    go_wp2_with fail
    refine (FixedOf_any A1 n c1 zs Af n cf fs w1 hI1 hF1 (by omega) (by omega)).mono ?_
    rintro e w2 ⟨rfl, hB2⟩
    have C2 := C1.trans (hB2.mono C1.size)
    have hI2 := hI1.to hB2 (Nat.le_refl _) hB2.size
    have hF2 := hF1.to hB2 (Nat.le_refl _) hB2.size
    clear hI1 hF1 hB2 C1
    cases hr : risB zs zs fs
    · have Hn := Lib.hid (show fixedR zs fs = -1 by unfold fixedR; rw [hr]; rfl)
      clear hr
      rw [Hn.out]
      go_wp2_with fail
      refine (specFixedOfF_any A1 n c1 zs Af n cf fs w2 hI2 hF2 (by omega) (by omega)).mono ?_
      rw [Hn.out]
      rintro e w3 ⟨rfl, hB3⟩
      have C3 := C2.trans (hB3.mono C2.size)
      have hI3 := hI2.to hB3 (Nat.le_refl _) hB3.size
      have hF3 := hF2.to hB3 (Nat.le_refl _) hB3.size
      go_wp2_with fail
      refine (specFixedOfF_any A1 n c1 zs Af n cf fs w3 hI3 hF3 (by omega) (by omega)).mono ?_
      rw [Hn.out]
      rintro e w4 ⟨rfl, hB4⟩
      go_wp2_with fail
      go_ret
      exact ⟨rfl, C3.trans (hB4.mono C3.size)⟩
    · have Hr := Lib.hid hr
      have hmp : mpB zs zs fs = true := by unfold risB at hr; rw [Bool.and_eq_true] at hr; exact hr.1
      obtain ⟨hvo, -, -, hen⟩ := mp_parts hmp
      rw [hlen.out] at hen
      have hn6 : n ≤ 6 := by have := hvo.1; rw [hlen.out] at this; exact this
      have Hn := Lib.hid (show fixedR zs fs = fixTo fs n by unfold fixedR; rw [hr, hlen.out]; rfl)
      have hbd := fixTo_bd fs n
      have hpn := powI_le6 (n := (n : Int)) (by omega)
      have Hbt := Lib.hid (fun j => fixTo_bit fs j n)
      have hpw : wrap64 (2 ^ n) = powI (n : Int) := by
        have e : (2 : Int) ^ n = powI (n : Int) := by simp [powI]
        rw [e]; exact IntWalk.wrap64_in _ ⟨by have := powI_pos (n : Int); omega, by omega⟩
      clear hr hmp hvo
      rw [Hn.out]
      go_wp2_with fail
      refine (specFixedOfF_any A1 n c1 zs Af n cf fs w2 hI2 hF2 (by omega) (by omega)).mono ?_
      rw [Hn.out]
      rintro e w3 ⟨rfl, hB3⟩
      have C3 := C2.trans (hB3.mono C2.size)
      have hI3 := hI2.to hB3 (Nat.le_refl _) hB3.size
      have hF3 := hF2.to hB3 (Nat.le_refl _) hB3.size
      clear hI2 hF2 hB3 C2
      generalize fixTo fs n = s at *
      generalize hpe : powI (n : Int) = pw at *
      clear hpe
      have hsn : (s != s) = false := by simp
      have hs0 : ¬ s < 0 := by omega
      have Hpw := Lib.hid hpw
      clear hpw
      go_wp2_with fail
      go_loopw [6] (fun i wr => ∃ (j q : Nat), j ≤ n ∧ i = .int .i64 j ∧ wr = w3.drewN q) (fun i _ => n - (intOf i).toNat)
      case atStart => exact ⟨0, 0, by omega, rfl, rfl⟩
      case round =>
        obtain ⟨j, q, hj, rfl, rfl⟩ := hrel
        by_cases hlt : j < n
        · obtain ⟨bf, off, hFe, _, hcf⟩ := hF3.at_ hlt
          subst hFe
          have hcj := hcf j hlt
          clear hcf
          obtain ⟨e1, l1⟩ := ends_it hen (k := j) (by rw [hlen3.out]; exact hlt)
          rw [e1] at hcj
          clear e1
          have hbj := Hbt.out j
          have hhb := fun w => hasBit_any s (j : Int) w (by omega) (by omega) (by omega) (by omega)
          by_cases hfj : itN fs j = j
          · have hb : bitB s (j : Int) = true := by rw [hbj]; simp [hlt, hfj]
            have he : ((itN fs j : Int) == (j : Int)) = true := by simp; omega
            rw [hb] at hhb
            have Hfj := Lib.hid hfj
            clear hb hbj hfj
            generalize itN fs j = y at *
            go_wp2_with (go_at_call 30; refine (hhb _).mono ?_; rintro e w' ⟨rfl, rfl⟩)
            go_roundw
            case rel => exact ⟨j + 1, _, by omega, by go_num, rfl⟩
            case measure => simp [intOf]; omega
          · have hb : bitB s (j : Int) = false := by rw [hbj]; simp [hfj]
            have he : ((itN fs j : Int) == (j : Int)) = false := by simp; omega
            rw [hb] at hhb
            have Hfj := Lib.hid hfj
            clear hb hbj hfj
            generalize itN fs j = y at *
            go_wp2_with (go_at_call 30; refine (hhb _).mono ?_; rintro e w' ⟨rfl, rfl⟩)
            go_roundw
            case rel => exact ⟨j + 1, _, by omega, by go_num, rfl⟩
            case measure => simp [intOf]; omega
        · obtain rfl : j = n := by omega
          have hlt2 : s < pw := hbd.2
          have hpw := Hpw.out
          have kB := below_drewN C3 q
          have hI4 := hI3.drewN q
          have hF4 := hF3.drewN q
          have zq : (w3.drewN q).heap.size = w3.heap.size := rfl
          go_wp2_with fail
          refine (IsRising_any A1 j c1 zs A1 j c1 zs Af j cf fs (w3.drewN q) hI4 hI4 hF4 (by omega) (by omega) (by omega)).mono ?_
          rw [Hr.out]
          rintro e w5 ⟨rfl, hB5⟩
          go_wp2_with fail
          go_ret
          exact ⟨rfl, kB.trans (hB5.mono C3.size)⟩
  · go_enter Try.func9, Try.ntmps9
    go_wp2
    go_ret
    exact ⟨rfl, Below.refl _ _⟩
end Go.Proofs.Ytmlihbcffndnbaa
