/- The contracts of the smallest functions: single bits, ranges, powers of two. -/
import Derived.Test.YtipdmaggfbfnlaaProg
import Derived.Test.YtipdmaggfbfnlaaGa
import Derived.WalkKit
import Derived.ProofKit
import Derived.Outline
import Derived.Lib.Hide
set_option linter.unusedVariables false
set_option linter.unusedSimpArgs false
namespace Go.Proofs.Ytipdmaggfbfnlaa
open Go.RowKit

theorem ret_int {k : IntKind} {a b : Int} (h : a = b) : Ending.returned (.int k a) = .returned (.int k b) := by rw [h]
theorem ret_bool {a b : Bool} (h : a = b) : Ending.returned (.bool a) = .returned (.bool b) := by rw [h]

theorem bit_any (s j : Int) (w : World) (h0 : 0 ≤ s) (h1 : s < 4611686018427387904) (j0 : 0 ≤ j) (j1 : j < 64) :
    Calls Try.prog 67 #[.int .i64 s, .int .i64 j] w fun e w' => e = .returned (.int .i64 (bitI s j)) ∧ w = w' := by
  go_enter Try.func67, Try.ntmps67
  go_wp2
  go_ret
  exact ⟨ret_int (shr_and_one h0 h1), rfl⟩
theorem has_any (s j : Int) (w : World) (h0 : 0 ≤ s) (h1 : s < 4611686018427387904) (j0 : 0 ≤ j) (j1 : j < 64) :
    Calls Try.prog 108 #[.int .i64 s, .int .i64 j] w fun e w' => e = .returned (.bool (bitB s j)) ∧ w = w' := by
  go_enter Try.func108, Try.ntmps108
  go_wp2
  go_ret
  exact ⟨ret_bool (by rw [shr_and_one h0 h1, bitI_one]), rfl⟩
theorem with_any (s j : Int) (w : World) (h0 : 0 ≤ s) (h1 : s < 64) (j0 : 0 ≤ j) (j1 : j ≤ 6) :
    Calls Try.prog 115 #[.int .i64 s, .int .i64 j] w fun e w' => e = .returned (.int .i64 (orI s (powI j))) ∧ w = w' := by
  go_enter Try.func115, Try.ntmps115
  go_wp2
  go_ret
  have hp := powI_le6 j1
  have hq := powI_pos j
  exact ⟨ret_int (by
    have : wrap64 (2 ^ j.toNat) = powI j := IntWalk.wrap64_in _ ⟨by unfold powI at hq; omega, by unfold powI at hp; omega⟩
    rw [this]; exact bits_or h0 (by omega) (by omega) (by omega)), rfl⟩
theorem within_any (s t : Int) (w : World) (h0 : 0 ≤ s) (h1 : s < 4611686018427387904) (j0 : 0 ≤ t) (j1 : t < 4611686018427387904) :
    Calls Try.prog 135 #[.int .i64 s, .int .i64 t] w fun e w' => e = .returned (.bool (lessI s t == 0)) ∧ w = w' := by
  go_enter Try.func135, Try.ntmps135
  go_wp2
  go_ret
  exact ⟨ret_bool (by rw [bits_less h0 h1 j0 j1]), rfl⟩

theorem inRange_any (n lo hi : Int) (w : World) :
    Calls Try.prog 92 #[.int .i64 n, .int .i64 lo, .int .i64 hi] w fun e w' => e = .returned (.bool (inB n lo hi)) ∧ w = w' := by
  go_enter Try.func92, Try.ntmps92
  go_wp2
  all_goals go_ret
  all_goals exact ⟨ret_bool (by unfold inB; simp; omega), rfl⟩
theorem isItemOf_any (n k : Int) (w : World) :
    Calls Try.prog 106 #[.int .i64 n, .int .i64 k] w fun e w' => e = .returned (.bool (inB k 0 (n - 1))) ∧ w = w' := by
  go_enter Try.func106, Try.ntmps106
  go_wp2
  all_goals go_ret
  all_goals exact ⟨ret_bool (by rw [Bool.eq_iff_iff]; simp [inB]; try omega), rfl⟩
theorem isSetOf_any (n s : Int) (w : World) (h0 : 0 ≤ n) (h1 : n ≤ 6) :
    Calls Try.prog 101 #[.int .i64 n, .int .i64 s] w fun e w' => e = .returned (.bool (inB s 0 (powI n - 1))) ∧ w = w' := by
  have hp := powI_le6 h1
  have hq := powI_pos n
  have e : wrap64 (2 ^ n.toNat) = powI n := IntWalk.wrap64_in _ ⟨by unfold powI at hq; omega, by unfold powI at hp; omega⟩
  have E := Lib.hid e
  clear e
  go_enter Try.func101, Try.ntmps101
  go_wp2
  all_goals go_ret
  all_goals exact ⟨ret_bool (by rw [Bool.eq_iff_iff]; simp [inB, E.out]; try omega), rfl⟩

set_option maxHeartbeats 400000 in
theorem power_any (n : Int) (w : World) (h0 : 0 ≤ n) (h1 : n ≤ 8) :
    Calls Try.prog 96 #[.int .i64 n] w fun e w' => e = .returned (.int .i64 (powI n)) ∧ w = w' := by
  go_enter Try.func96, Try.ntmps96
  go_wp2
  go_loop [0, 3] (fun i t => ∃ k : Int, 0 ≤ k ∧ k ≤ n ∧ i = .int .i64 k ∧ t = .int .i64 (powI (n - k))) (fun i _ => (intOf i).toNat)
  case atStart => exact ⟨n, by omega, by omega, rfl, by rw [show n - n = 0 from by omega]; rfl⟩
  case round =>
    obtain ⟨k, hk, hkn, rfl, rfl⟩ := hrel
    have hp : powI (n - k) ≤ 256 := powI_le (m := 8) (by omega)
    have hq := powI_pos (n - k)
    by_cases hlt : 0 < k
    · go_wp2
      go_round
      case rel => exact ⟨k - 1, by omega, by omega, rfl, by rw [show n - (k - 1) = (n - k) + 1 from by omega, powI_succ (by omega)]⟩
      case measure => simp [intOf]; omega
    · go_wp2
      go_ret
      exact ⟨ret_int (by rw [show n - k = n from by omega]), rfl⟩
end Go.Proofs.Ytipdmaggfbfnlaa
