/- SinglesOf's own law: of each of them, and of no other item, just one of CoversOf ends at it. -/
import Derived.Test.YtogiooecjfnkcaaDrSinglesOf
import Derived.Test.YtogiooecjfnkcaaSnI
import Derived.Test.YtogiooecjfnkcaaSnM
import Derived.Test.YtogiooecjfnkcaaCovImp
import Derived.Test.YtogiooecjfnkcaaGb
namespace Go.Proofs.Ytogiooecjfnkcaa
open Go.RowKit Go.Shelf

set_option maxRecDepth 100000 in
set_option maxHeartbeats 8000000 in
theorem fnSinglesOf_walk (A : Option Addr) (m c : Nat) (bs : List Int) (w : World) (h : Byts w w.heap.size A m bs) (hcap : m ≤ c) :
    Calls Try.prog 7 #[.slice A m c] w fun e w' => e = .returned (.bool true) ∧ Below w.heap.size w w' := by
  by_cases hs : m ≤ 1048576
  · go_enter Try.func7, Try.ntmps7
    go_wp2_with fail
    refine (drawSinglesOf_any A m c bs w h hcap (by omega)).mono ?_
    rintro e w1 ⟨A1, n, c1, zs, rfl, hn7, hI1, C1⟩
    have hlen := Lib.hid hI1.len
    cases hv : vo zs
    · have HL := Lib.hid (show singlesR zs = -1 by unfold singlesR; rw [hv]; rfl)
      clear hv
      go_wp2_with fail
      refine (SinglesOf_any A1 n c1 zs w1 hI1 (by omega)).mono ?_
      rw [HL.out]
      rintro e w2 ⟨rfl, hB2⟩
      have z2 := hB2.size
      have C2 := C1.trans (hB2.mono C1.size)
      have hI2 := hI1.to hB2 (Nat.le_refl _) z2
      clear hI1 hB2 C1
      go_wp2_with fail
      refine (specSinglesOfF_any A1 n c1 zs w2 hI2 (by omega)).mono ?_
      rw [HL.out]
      rintro e w3 ⟨rfl, hB3⟩
      have z3 := hB3.size
      have C3 := C2.trans (hB3.mono C2.size)
      have hI3 := hI2.to hB3 (Nat.le_refl _) z3
      clear hI2 hB3 C2
      go_wp2_with fail
      refine (specSinglesOfF_any A1 n c1 zs w3 hI3 (by omega)).mono ?_
      rw [HL.out]
      rintro e w4 ⟨rfl, hB4⟩
      have z4 := hB4.size
      have C4 := C3.trans (hB4.mono C3.size)
      have hI4 := hI3.to hB4 (Nat.le_refl _) z4
      clear hI3 hB4 C3
      go_wp2_with fail
      go_ret
      exact ⟨rfl, C4⟩
    · have hvo : VoP zs := by simpa [vo] using hv
      have HL := Lib.hid (show singlesR zs = snTo zs zs.length by unfold singlesR; rw [hv]; rfl)
      clear hv
      have hn6 : n ≤ 6 := by have := hvo.1; rw [hlen.out] at this; exact this
      have hSb := snTo_bd zs zs.length
      rw [hlen.out] at hSb
      have hp64 := powI_le6 (n := (n : Int)) (by omega)
      have HB := Lib.hid (show ∀ i : Nat, i < n → bitB (snTo zs zs.length) i = (colTo (coversR zs) (i : Int) (coversR zs).length == 1) from fun i hi => by
        have h1 := col_pop hvo (i := i) (by rw [hlen.out]; exact hi)
        rw [snTo_bit, decide_eq_true (show i < zs.length by rw [hlen.out]; exact hi), Bool.true_and]
        unfold snB; rw [← h1, Bool.eq_iff_iff]; simp; omega)
      have HR := Lib.hid (show ∀ k, k < (coversR zs).length → ∃ a b : Nat, (coversR zs)[k]?.getD [] = [(a : Int), (b : Int)] from fun k hk => row_at hvo hk)
      have hC := (covers_few hvo).1
      have e1 : wrap64 (2 ^ n) = powI n := by
        have : (2 : Int) ^ n = powI n := by simp [powI]
        rw [this]; exact IntWalk.wrap64_in _ ⟨by have := powI_pos (n : Int); omega, by omega⟩
      have hlt : decide (snTo zs zs.length < powI n) = true := decide_eq_true (by rw [hlen.out]; exact hSb.2)
      rw [hlen.out] at HL HB hlt
      generalize hS : snTo zs n = S at *
      clear hS
      go_wp2_with fail
      refine (SinglesOf_any A1 n c1 zs w1 hI1 (by omega)).mono ?_
      rw [HL.out]
      rintro e w2 ⟨rfl, hB2⟩
      have z2 := hB2.size
      have C2 := C1.trans (hB2.mono C1.size)
      have hI2 := hI1.to hB2 (Nat.le_refl _) z2
      clear hI1 hB2 C1
      go_wp2_with fail
      refine (specSinglesOfF_any A1 n c1 zs w2 hI2 (by omega)).mono ?_
      rw [HL.out]
      rintro e w3 ⟨rfl, hB3⟩
      have z3 := hB3.size
      have C3 := C2.trans (hB3.mono C2.size)
      have hI3 := hI2.to hB3 (Nat.le_refl _) z3
      clear hI2 hB3 C2
      go_wp2_with fail
      refine (CoversOf_any A1 n c1 zs w3 hI3 (by omega)).mono ?_
      rintro e w4 ⟨A4, m4, c4, rfl, r4, hB4⟩
      have C4 := C3.trans (hB4.mono C3.size)
      have ha := r4.ints (B := w4.heap.size) (Nat.le_refl _)
      have hm := Lib.hid r4.len
      generalize coversR zs = rs at *
      clear hB4 r4 hI3 C3
      rw [hm.out] at HR HB hC
      go_wp2_with fail
      go_loop [6] (fun i => ∃ q : Nat, q ≤ n ∧ i = .int .i64 q) (fun i => n - (intOf i).toNat)
      case atStart => exact ⟨0, by omega, rfl⟩
      case round =>
        obtain ⟨q, hq, rfl⟩ := hrel
        by_cases hqn : q < n
        · have Hq := Lib.hid (HB.out q hqn)
          go_wp2_with fail
          go_loop [7, 8] (fun t j => ∃ k : Nat, k ≤ m4 ∧ j = .int .i64 k ∧ t = .int .i64 (colTo rs (q : Int) k : Int)) (fun _ j => m4 - (intOf j).toNat)
          case atStart => exact ⟨0, by omega, rfl, rfl⟩
          case round =>
            obtain ⟨k, hk, rfl, rfl⟩ := hrel
            have hcl := colTo_le rs (q : Int) k
            by_cases hkm : k < m4
            · obtain ⟨b, off, rfl, -, hc⟩ := ha.at_ hkm
              obtain ⟨R1, q1, hck, hR1⟩ := hc k hkm
              obtain ⟨x, y, hxy⟩ := HR.out k hkm
              rw [hxy] at hck hR1
              obtain ⟨b2, off2, rfl, -, hc2⟩ := hR1.at_ (k := 0) (by simp)
              have hc1 : w4.cell? ⟨b2, off2 + 1, none⟩ = some (.int .i64 (y : Int)) := hc2 1 (by simp)
              have Hn := Lib.hid (show colTo rs (q : Int) (k + 1) = colTo rs (q : Int) k + (if (y : Int) == (q : Int) then 1 else 0) by show colTo rs (q : Int) k + _ = _; rw [hxy]; rfl)
              clear hc hc2 hR1 hxy
              cases hyq : ((y : Int) == (q : Int))
              · rw [hyq] at Hn
                go_wp2
                go_round
                case rel => exact ⟨k + 1, by omega, by go_num, by rw [Hn.out]; simp⟩
                case measure => simp [intOf]; omega
              · rw [hyq] at Hn
                go_wp2
                go_round
                case rel => exact ⟨k + 1, by omega, by go_num, by rw [Hn.out]; go_num⟩
                case measure => simp [intOf]; omega
            · obtain rfl : k = m4 := by omega
              have hbb := fun w => hasBit_any S (q : Int) w hSb.1 (by omega) (by omega) (by omega)
              rw [Hq.out] at hbb
              have hcc : ((colTo rs (q : Int) k : Int) == 1) = (colTo rs (q : Int) k == 1) := by rw [Bool.eq_iff_iff]; simp; omega
              cases hcb : (colTo rs (q : Int) k == 1)
              · rw [hcb] at hbb hcc
                go_wp2_with (go_at_call 26; refine (hbb _).mono ?_; rintro e w' ⟨rfl, rfl⟩)
                go_round
                case rel => exact ⟨q + 1, by omega, by go_num⟩
                case measure => simp [intOf]; omega
              · rw [hcb] at hbb hcc
                go_wp2_with (go_at_call 26; refine (hbb _).mono ?_; rintro e w' ⟨rfl, rfl⟩)
                go_round
                case rel => exact ⟨q + 1, by omega, by go_num⟩
                case measure => simp [intOf]; omega
        · obtain rfl : q = n := by omega
          go_wp2
          go_ret
          exact ⟨rfl, C4⟩
  · go_enter Try.func7, Try.ntmps7
    go_wp2
    go_ret
    exact ⟨rfl, Below.refl _ _⟩
end Go.Proofs.Ytogiooecjfnkcaa
