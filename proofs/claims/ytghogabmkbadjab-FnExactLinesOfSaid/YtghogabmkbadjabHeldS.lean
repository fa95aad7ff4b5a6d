/- Marks on rows of rows, held. -/
import Derived.Test.YtghogabmkbadjabGxd
set_option linter.unusedVariables false
set_option linter.unusedSimpArgs false
namespace Go.Proofs.Ytghogabmkbadjab
open Go.RowKit

set_option maxHeartbeats 1000000 in
theorem heldIntSS_any (A : Option Addr) (n c B : Nat) (rs : List (List Int)) (k : Int) (w : World) (hA : IntsS w B A n (countedR k rs)) (hbig : n ≤ 1048576) (ht : tot rs ≤ 1048576) (hk0 : 0 ≤ k) (hk1 : k ≤ 1048576) :
    Calls Try.prog 46 #[.slice A n c, .int .i64 k] w fun e w' => e = .returned (.int .i64 (k + tot rs)) ∧ w = w' := by
  have hlen := Lib.hid (show rs.length = n by rw [← hA.len, countedR_len])
  go_enter Try.func46, Try.ntmps46
  go_wp2
  go_loop [1, 5] (fun v i => ∃ j : Nat, j ≤ n ∧ i = .int .i64 j ∧ v = .int .i64 (k + tot (rs.take j))) (fun _ i => n - (intOf i).toNat)
  case atStart => exact ⟨0, by omega, rfl, by simp [tot]⟩
  case round =>
    obtain ⟨j, hj, rfl, rfl⟩ := hrel
    by_cases hlt : j < n
    · have Hl := Lib.hid (show j < rs.length by rw [hlen.out]; exact hlt)
      obtain ⟨b, off, rfl, _, hc⟩ := hA.at_ hlt
      obtain ⟨A', c', hcell, hI⟩ := hc j hlt
      have Hc := Lib.hid hc
      clear hc
      have Hge := Lib.hid (countedR_get rs k j Hl.out)
      rw [Hge.out] at hcell hI
      have hcl : (counted (k + tot (rs.take j)) (rs[j]?.getD []).length).length = (rs[j]?.getD []).length := by simp [counted]
      rw [hcl] at hcell hI
      clear hcl
      have hle := getD_le (rs := rs) j
      have htl := tot_take_le rs j
      have Hts := Lib.hid (tot_take_succ Hl.out)
      generalize hr : (rs[j]?.getD []).length = m at *
      clear hr
      go_wp2_with fail
      refine (heldIntS_any A' m c' B (k + tot (rs.take j)) w hI (by omega) (by omega) (by omega)).mono ?_
      rintro e w1 ⟨rfl, rfl⟩
      go_wp2
      go_round
      case rel => exact ⟨j + 1, by omega, by go_num, congrArg (Value.int .i64) (by rw [Hts.out]; omega)⟩
      case measure => simp [intOf]; omega
    · obtain rfl : j = n := by omega
      have Htk := Lib.hid (show rs.take j = rs by rw [List.take_of_length_le (by rw [hlen.out]; exact Nat.le_refl _)])
      go_wp2
      go_ret
      exact ⟨ret_int (by rw [Htk.out]), rfl⟩
end Go.Proofs.Ytghogabmkbadjab
