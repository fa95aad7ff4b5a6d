/- LeastFixed's own law: it is one of those that stay, and below each other one. -/
import Derived.Test.YtmlihbcffndnbaaDoorDrLeastFixed
import Derived.Test.YtmlihbcffndnbaaDoorLfO
import Derived.Test.YtmlihbcffndnbaaDoorGxi
import Derived.Test.YtmlihbcffndnbaaDoorGxc
import Derived.Test.YtmlihbcffndnbaaDoorGxh
import Derived.Test.YtmlihbcffndnbaaDoorGxe
set_option linter.unusedVariables false
set_option linter.unusedSimpArgs false
namespace Go.Proofs.YtmlihbcffndnbaaDoor
open Go.RowKit Go.Shelf
attribute [local go_sem] Oper.semAt_some
attribute [local go_sem, local simp] wide_fn

set_option maxRecDepth 100000 in
set_option maxHeartbeats 8000000 in
theorem fnLeastFixed_walk (A : Option Addr) (m c : Nat) (bs : List Int) (w : World) (h : Byts w w.heap.size A m bs) (hcap : m ≤ c) (hE : Et w) :
    Calls Tryd.prog 5 #[.slice A m c] w fun e w' => e = .returned (.bool true) ∧ Below w.heap.size w w' := by
  by_cases hs : m ≤ 1048576
  · go_enter Tryd.func5, Tryd.ntmps5
    go_wp2_with fail
    refine (drawLeastFixed_any A m c bs w h hcap (by omega)).mono ?_
    rintro e w1 ⟨A1, n, c1, zs, Af, cf, fs, rfl, hn7, hI1, hF1, C1⟩
    have hlen := Lib.hid hI1.len
    have HE := Lib.hid (fun w' (C : Below w.heap.size w w') => hE.below C hE.2)
    clear hE
    go_wp2_with fail
    refine (LeastFixed_any A1 n c1 zs Af n cf fs w1 hI1 hF1 (by omega) (by omega) (HE.out _ C1)).mono ?_
    rintro e w2 ⟨rfl, hB2⟩
    have C2 := C1.trans (hB2.mono C1.size)
    have hI2 := hI1.to hB2 (Nat.le_refl _) hB2.size
    have hF2 := hF1.to hB2 (Nat.le_refl _) hB2.size
    clear hI1 hF1 hB2 C1
    cases hr : lfB zs fs
    · have Hn := Lib.hid (show lfR zs fs = -1 by unfold lfR; rw [hr]; rfl)
      clear hr
      rw [Hn.out]
      go_wp2_with fail
      refine (specLeastFixedF_any A1 n c1 zs Af n cf fs w2 hI2 hF2 (by omega) (by omega)).mono ?_
      rw [Hn.out]
      rintro e w3 ⟨rfl, hB3⟩
      have C3 := C2.trans (hB3.mono C2.size)
      have hI3 := hI2.to hB3 (Nat.le_refl _) hB3.size
      have hF3 := hF2.to hB3 (Nat.le_refl _) hB3.size
      go_wp2_with fail
      refine (specLeastFixedF_any A1 n c1 zs Af n cf fs w3 hI3 hF3 (by omega) (by omega)).mono ?_
      rw [Hn.out]
      rintro e w4 ⟨rfl, hB4⟩
      go_wp2_with fail
      go_ret
      exact ⟨rfl, C3.trans (hB4.mono C3.size)⟩
    · obtain ⟨R, hR, hRl, hfx, hn6, hbR, hme⟩ := lf_facts hr
      rw [hlen.out] at hRl hfx hn6 hbR hme
      have Hn := Lib.hid hR
      have Hfx := Lib.hid hfx
      have hbd := fixTo_bd fs n
      have hpn := powI_le6 (n := (n : Int)) (by omega)
      have Hme := Lib.hid hme
      clear hr hR hfx hme
      rw [Hn.out]
      go_wp2_with fail
      refine (specLeastFixedF_any A1 n c1 zs Af n cf fs w2 hI2 hF2 (by omega) (by omega)).mono ?_
      rw [Hn.out]
      rintro e w3 ⟨rfl, hB3⟩
      have C3 := C2.trans (hB3.mono C2.size)
      have hI3 := hI2.to hB3 (Nat.le_refl _) hB3.size
      have hF3 := hF2.to hB3 (Nat.le_refl _) hB3.size
      clear hI2 hF2 hB3 C2
      go_wp2_with fail
      refine (FixedOf_any A1 n c1 zs Af n cf fs w3 hI3 hF3 (by omega) (by omega)).mono ?_
      rw [Hfx.out]
      rintro e w4 ⟨rfl, hB4⟩
      have C4 := C3.trans (hB4.mono C3.size)
      have hI4 := hI3.to hB4 (Nat.le_refl _) hB4.size
      clear hI3 hF3 hB4 C3
      have hs64 : fixTo fs n < 64 := by omega
      have hs0 := hbd.1
      generalize fixTo fs n = s at *
      clear hbd hpn
      go_wp2
      go_loopw [7] (fun i wr => ∃ (j : Nat), j ≤ n ∧ i = .int .i64 j ∧ Below w.heap.size w wr ∧ Below w4.heap.size w4 wr) (fun i _ => n - (intOf i).toNat)
      case atStart => exact ⟨0, by omega, rfl, C4, Below.refl _ _⟩
      case round =>
        obtain ⟨j, hj, rfl, hC, hC4⟩ := hrel
        rename World => wy
        by_cases hlt : j < n
        · have hhb := fun w => hasBit_any s (j : Int) w (by omega) (by omega) (by omega) (by omega)
          have hI5 := hI4.to hC4 (Nat.le_refl _) hC4.size
          cases hb : bitB s (j : Int)
          · rw [hb] at hhb
            clear hb hI5
            go_wp2_with (go_at_call 18; refine (hhb _).mono ?_; rintro e w' ⟨rfl, rfl⟩)
            go_roundw
            case rel => exact ⟨j + 1, by omega, by go_num, hC, hC4⟩
            case measure => simp [intOf]; omega
          · have Hm := Lib.hid (Hme.out j hlt hb)
            rw [hb] at hhb
            clear hb
            have Hmt := Lib.hid (MeetOf_any A1 n c1 zs (R : Int) (j : Int) wy hI5 (by omega) (HE.out _ hC))
            rw [Hm.out] at Hmt
            clear hI5
            go_wp2_with (go_at_call 18; refine (hhb _).mono ?_; rintro e w' ⟨rfl, rfl⟩)
            refine Hmt.out.mono ?_
            clear Hmt
            rintro e w5 ⟨rfl, hB5⟩
            have z5 := hC4.size
            have z6 := hC.size
            have hRR : ((R : Int) != (R : Int)) = false := by simp
            go_wp2_with fail
            go_roundw
            case rel => exact ⟨j + 1, by omega, by go_num, hC.trans (hB5.mono z6), hC4.trans (hB5.mono z5)⟩
            case measure => simp [intOf]; omega
        · obtain rfl : j = n := by omega
          have hhb := fun w => hasBit_any s (R : Int) w (by omega) (by omega) (by omega) (by omega)
          rw [hbR] at hhb
          clear hbR
          go_wp2_with (go_at_call 18; refine (hhb _).mono ?_; rintro e w' ⟨rfl, rfl⟩)
          go_ret
          exact ⟨rfl, hC⟩
  · go_enter Tryd.func5, Tryd.ntmps5
    go_wp2
    go_ret
    exact ⟨rfl, Below.refl _ _⟩
end Go.Proofs.YtmlihbcffndnbaaDoor
