/- The model's test of orders. -/
import Derived.Test.YtipdmaggfbfnlaaLeaf
import Derived.Test.YtipdmaggfbfnlaaGa
import Derived.Deep.QuietTactic
import Derived.BigQuiet
import Derived.OwnWalk
set_option linter.unusedVariables false
set_option linter.unusedSimpArgs false
namespace Go.Proofs.Ytipdmaggfbfnlaa
open Go.RowKit

theorem quiet_add_left {P : Program} {f : FuncId} {args : Array Value} {w : World} {a n : Nat} {v : Value}
    (h : Calls P f args (w.drewN (a + n)) fun e w' => e = .returned v ∧ w.drewN (a + n) = w') :
    Calls P f args (w.drewN (a + n)) fun e w'' => e = .returned v ∧ ∃ m, w'' = w.drewN (a + m) :=
  h.mono fun _ _ ⟨he, hm⟩ => ⟨he, n, hm.symm⟩

set_option maxHeartbeats 1000000 in
theorem validOrder_any (A : Option Addr) (n c B : Nat) (zs : List Int) (w : World) (h : Ints w B A n zs) (hbig : n ≤ 1152921504606846976) :
    Calls Try.prog 57 #[.slice A n c] w fun e w' => e = .returned (.bool (vo zs)) ∧ ∃ m, w' = w.drewN m := by
  have hlen := Lib.hid h.len
  by_cases h6 : n ≤ 6
  · go_enter Try.func57, Try.ntmps57
    go_wp2
    go_loopw [4] (fun i wr => ∃ k m : Nat, k ≤ n ∧ i = .int .i64 k ∧ (∀ a, a < k → okA n zs a = true) ∧ wr = w.drewN m) (fun i _ => n - (intOf i).toNat)
    case atStart => exact ⟨0, 0, by omega, rfl, fun a ha => by omega, rfl⟩
    case round =>
      obtain ⟨k, m, hk, rfl, hok, rfl⟩ := hrel
      have Hok := Lib.hid hok
      clear hok
      by_cases hlt : k < n
      · obtain ⟨b, off, rfl, _, hc⟩ := h.at_ hlt
        have hck := hc k hlt
        have Hc := Lib.hid hc
        clear hc
        have hn6 : (n : Int) ≤ 6 := by omega
        have hpw : powI n ≤ 64 := powI_le6 hn6
        have hpp := powI_pos n
        cases hin : inB (zs[k]?.getD 0) 0 (powI n - 1)
        · have Hf := Lib.hid (show vo zs = false from vo_false (VoP_not_A (k := k) (by rw [hlen.out]; exact hlt) (by rw [hlen.out]; simp [okA, hin])))
          go_wp2
          go_quiet ((first
            | (go_at_call 96; exact quiet_add_left (power_any _ _ (by omega) (by omega)))
            | (go_at_call 92; exact quiet_add_left (inRange_any _ _ _ _))))
          go_wp2
          go_ret
          exact ⟨ret_bool Hf.out.symm, by first | exact ⟨_, rfl⟩ | exact ⟨_, World.drewN_drewN ..⟩⟩
        · have hz : 0 ≤ zs[k]?.getD 0 ∧ zs[k]?.getD 0 < 64 := by unfold inB at hin; simp at hin; omega
          cases hb : bitB (zs[k]?.getD 0) k
          · have Hk := Lib.hid (okA_yes (n := n) hin hb)
            have hbi : (bitI (zs[k]?.getD 0) k == 1) = false := by rw [bitI_one, hb]
            go_wp2
            go_quiet ((first
              | (go_at_call 96; exact quiet_add_left (power_any _ _ (by omega) (by omega)))
              | (go_at_call 92; exact quiet_add_left (inRange_any _ _ _ _))
              | (go_at_call 67; exact quiet_add_left (bit_any _ _ _ (by omega) (by omega) (by omega) (by omega)))))
            go_wp2
            go_roundw
            case rel => exact ⟨k + 1, _, by omega, by go_num, all_snoc Hok.out Hk.out, rfl⟩
            case measure => simp [intOf]; omega
          · have Hf := Lib.hid (show vo zs = false from vo_false (VoP_not_A (k := k) (by rw [hlen.out]; exact hlt) (by rw [hlen.out]; simp [okA, hb])))
            have hbi : (bitI (zs[k]?.getD 0) k == 1) = true := by rw [bitI_one, hb]
            go_wp2
            go_quiet ((first
              | (go_at_call 96; exact quiet_add_left (power_any _ _ (by omega) (by omega)))
              | (go_at_call 92; exact quiet_add_left (inRange_any _ _ _ _))
              | (go_at_call 67; exact quiet_add_left (bit_any _ _ _ (by omega) (by omega) (by omega) (by omega)))))
            go_wp2
            go_ret
            exact ⟨ret_bool Hf.out.symm, by first | exact ⟨_, rfl⟩ | exact ⟨_, World.drewN_drewN ..⟩⟩
      · have hkn : k = n := by omega
        subst hkn
        go_wp2
        go_loopw [5] (fun i wr => ∃ a q : Nat, a ≤ k ∧ i = .int .i64 a ∧ (∀ x, x < a → ∀ y, y < k → okP zs x y = true) ∧ wr = w.drewN q) (fun i _ => k - (intOf i).toNat)
        case atStart => exact ⟨0, m, by omega, rfl, fun a ha => by omega, rfl⟩
        case round =>
          obtain ⟨a, q, ha, rfl, hpa, rfl⟩ := hrel
          have Hpa := Lib.hid hpa
          clear hpa
          by_cases hak : a < k
          · have hn6 : (k : Int) ≤ 6 := by omega
            have hpw : powI k ≤ 64 := powI_le6 hn6
            have hpp := powI_pos k
            go_wp2
            go_loopw [6] (fun i wr => ∃ b q : Nat, b ≤ k ∧ i = .int .i64 b ∧ (∀ y, y < b → okP zs a y = true) ∧ wr = w.drewN q) (fun i _ => k - (intOf i).toNat)
            case atStart => exact ⟨0, q, by omega, rfl, fun a ha => by omega, rfl⟩
            case round =>
              obtain ⟨b, q, hb, rfl, hpb, rfl⟩ := hrel
              have Hpb := Lib.hid hpb
              clear hpb
              by_cases hbk : b < k
              · obtain ⟨bl, off, rfl, _, hc⟩ := h.at_ hak
                have hca := hc a hak
                have hcb := hc b hbk
                have Hc := Lib.hid hc
                clear hc
                have hza := okA_bd hn6 (Hok.out a hak)
                have hzb := okA_bd hn6 (Hok.out b hbk)
                have hl := lessI_bd (zs[b]?.getD 0) (zs[a]?.getD 0)
                have hbl : bits .andNot .i64 (zs[b]?.getD 0) (zs[a]?.getD 0) = lessI (zs[b]?.getD 0) (zs[a]?.getD 0) := bits_less (by omega) (by omega) (by omega) (by omega)
                cases h1 : bitB (zs[a]?.getD 0) b
                · have hbi : (bitI (zs[a]?.getD 0) b == 1) = false := by rw [bitI_one, h1]
                  have Hk := Lib.hid (show okP zs a b = true by simp [okP, h1])
                  go_wp2
                  go_quiet ((first
              | (go_at_call 96; exact quiet_add_left (power_any _ _ (by omega) (by omega)))
              | (go_at_call 92; exact quiet_add_left (inRange_any _ _ _ _))
              | (go_at_call 67; exact quiet_add_left (bit_any _ _ _ (by omega) (by omega) (by omega) (by omega)))))
                  go_wp2
                  go_roundw
                  case rel => exact ⟨b + 1, _, by omega, by go_num, all_snoc Hpb.out Hk.out, rfl⟩
                  case measure => simp [intOf]; omega
                · have hbi : (bitI (zs[a]?.getD 0) b == 1) = true := by rw [bitI_one, h1]
                  cases h2 : (lessI (zs[b]?.getD 0) (zs[a]?.getD 0) == 0)
                  · have Hf := Lib.hid (show vo zs = false from vo_false (VoP_not_P (k := a) (j := b) (by rw [hlen.out]; exact hak) (by rw [hlen.out]; exact hbk) (by simp [okP, h1, h2])))
                    have h2' : (lessI (zs[b]?.getD 0) (zs[a]?.getD 0) != 0) = true := by simpa [bne] using h2
                    go_wp2
                    go_quiet ((first
              | (go_at_call 96; exact quiet_add_left (power_any _ _ (by omega) (by omega)))
              | (go_at_call 92; exact quiet_add_left (inRange_any _ _ _ _))
              | (go_at_call 67; exact quiet_add_left (bit_any _ _ _ (by omega) (by omega) (by omega) (by omega)))))
                    go_wp2
                    go_ret
                    exact ⟨ret_bool Hf.out.symm, by first | exact ⟨_, rfl⟩ | exact ⟨_, World.drewN_drewN ..⟩⟩
                  · have h2' : (lessI (zs[b]?.getD 0) (zs[a]?.getD 0) != 0) = false := by simpa [bne] using h2
                    cases h3 : bitB (zs[b]?.getD 0) a
                    · have hbj : (bitI (zs[b]?.getD 0) a == 1) = false := by rw [bitI_one, h3]
                      have Hk := Lib.hid (show okP zs a b = true by simp [okP, h1, h2, h3])
                      go_wp2
                      go_quiet ((first
              | (go_at_call 96; exact quiet_add_left (power_any _ _ (by omega) (by omega)))
              | (go_at_call 92; exact quiet_add_left (inRange_any _ _ _ _))
              | (go_at_call 67; exact quiet_add_left (bit_any _ _ _ (by omega) (by omega) (by omega) (by omega)))))
                      go_wp2
                      go_roundw
                      case rel => exact ⟨b + 1, _, by omega, by go_num, all_snoc Hpb.out Hk.out, rfl⟩
                      case measure => simp [intOf]; omega
                    · have hbj : (bitI (zs[b]?.getD 0) a == 1) = true := by rw [bitI_one, h3]
                      have Hf := Lib.hid (show vo zs = false from vo_false (VoP_not_P (k := a) (j := b) (by rw [hlen.out]; exact hak) (by rw [hlen.out]; exact hbk) (by simp [okP, h1, h2, h3])))
                      go_wp2
                      go_quiet ((first
              | (go_at_call 96; exact quiet_add_left (power_any _ _ (by omega) (by omega)))
              | (go_at_call 92; exact quiet_add_left (inRange_any _ _ _ _))
              | (go_at_call 67; exact quiet_add_left (bit_any _ _ _ (by omega) (by omega) (by omega) (by omega)))))
                      go_wp2
                      go_ret
                      exact ⟨ret_bool Hf.out.symm, by first | exact ⟨_, rfl⟩ | exact ⟨_, World.drewN_drewN ..⟩⟩
              · have hbk' : b = k := by omega
                subst hbk'
                go_wp2
                go_roundw
                case rel => exact ⟨a + 1, _, by omega, by go_num, all_snoc Hpa.out Hpb.out, rfl⟩
                case measure => simp [intOf]; omega
          · have hkn : a = k := by omega
            subst hkn
            have Hf := Lib.hid (show vo zs = true from vo_true ⟨by rw [hlen.out]; exact h6, by rw [hlen.out]; exact Hok.out, by rw [hlen.out]; exact Hpa.out⟩)
            go_wp2
            go_ret
            exact ⟨ret_bool Hf.out.symm, by first | exact ⟨_, rfl⟩ | exact ⟨_, World.drewN_drewN ..⟩⟩
  · have Hf := Lib.hid (show vo zs = false from vo_false fun hv => by have := hv.1; rw [hlen.out] at this; omega)
    go_enter Try.func57, Try.ntmps57
    go_wp2
    go_ret
    exact ⟨ret_bool Hf.out.symm, 0, rfl⟩
end Go.Proofs.Ytipdmaggfbfnlaa
