/- How many items a set has, as the laws see it. -/
import Derived.Test.YtogiooecjfnkcaaGb
namespace Go.Proofs.Ytogiooecjfnkcaa
open Go.RowKit

def sizeTo (s : Int) : Nat → Int
  | 0 => 0
  | k + 1 => sizeTo s k + bitI s k
theorem sizeTo_fin : ∀ k : Fin 64, sizeTo (k.val : Int) 62 = popI (k.val : Int) := by decide +kernel
theorem sizeTo_bd (s : Int) : ∀ k : Nat, 0 ≤ sizeTo s k ∧ sizeTo s k ≤ k
  | 0 => ⟨Int.le_refl _, Int.le_refl _⟩
  | k + 1 => by
    have h1 := sizeTo_bd s k
    have h2 := bitI_01 s k
    unfold sizeTo
    omega
set_option maxHeartbeats 1000000 in
theorem lsize_any (s : Int) (w : World) (h0 : 0 ≤ s) (h1 : s < 64) :
    Calls Try.prog 29 #[.int .i64 s] w fun e w' => e = .returned (.int .i64 (popI s)) ∧ w = w' := by
  go_enter Try.func29, Try.ntmps29
  go_wp2
  go_loop [3, 4] (fun t i => ∃ k : Nat, k ≤ 62 ∧ i = .int .i64 k ∧ t = .int .i64 (sizeTo s k)) (fun _ i => 62 - (intOf i).toNat)
  case atStart => exact ⟨0, by omega, rfl, rfl⟩
  case round =>
    obtain ⟨k, hk, rfl, rfl⟩ := hrel
    by_cases hlt : k < 62
    · have Hs := Lib.hid (show sizeTo s (k + 1) = sizeTo s k + bitI s k from rfl)
      have hb := shr_and_one (s := s) (j := (k : Int)) h0 (by omega)
      simp only [Int.toNat_natCast] at hb
      have Hb := Lib.hid hb
      clear hb
      have hz := sizeTo_bd s k
      have hy := bitI_01 s k
      generalize sizeTo s k = z at *
      go_wp2
      go_round
      case rel => exact ⟨k + 1, by omega, by go_num, by rw [Hs.out, Hb.out]; congr 1; exact IntWalk.wrap64_in _ ⟨by omega, by omega⟩⟩
      case measure => simp [intOf]; omega
    · obtain rfl : k = 62 := by omega
      obtain ⟨j, rfl⟩ := Int.eq_ofNat_of_zero_le h0
      have He := Lib.hid (sizeTo_fin ⟨j, by omega⟩)
      go_wp2
      go_ret
      exact ⟨ret_int He.out, rfl⟩
end Go.Proofs.Ytogiooecjfnkcaa
