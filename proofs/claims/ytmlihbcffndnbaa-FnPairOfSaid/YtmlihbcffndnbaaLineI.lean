/- The program's lineup: its making, what is free, all items; an item less. -/
import Derived.Test.YtmlihbcffndnbaaGa
import Derived.Maps.Own
set_option linter.unusedVariables false
set_option linter.unusedSimpArgs false
namespace Go.Proofs.Ytmlihbcffndnbaa
open Go.RowKit Go.Shelf

/-- A lineup: the order turned round in block b, the map in block m. -/
def lineV (b m n : Nat) : Value := .agg #[.slice (some ⟨b, 0, none⟩) n n, .map (some m)]

theorem without_any (s j : Int) (w : World) (h0 : 0 ≤ s) (h1 : s < 64) (j0 : 0 ≤ j) (j1 : j ≤ 6) :
    Calls Try.prog 83 #[.int .i64 s, .int .i64 j] w fun e w' => e = .returned (.int .i64 (lessI s (powI j))) ∧ w = w' := by
  go_enter Try.func83, Try.ntmps83
  go_wp2
  go_ret
  have hp := powI_le6 j1
  have hq := powI_pos j
  exact ⟨ret_int (by
    have : wrap64 (2 ^ j.toNat) = powI j := IntWalk.wrap64_in _ ⟨by unfold powI at hq; omega, by unfold powI at hp; omega⟩
    rw [this]; exact bits_less h0 (by omega) (by omega) (by omega)), rfl⟩
theorem oall_any (A : Option Addr) (n c : Nat) (w : World) (h1 : n ≤ 6) :
    Calls Try.prog 60 #[.slice A n c] w fun e w' => e = .returned (.int .i64 (powI n - 1)) ∧ w = w' := by
  have hp := powI_le6 (n := (n : Int)) (by omega)
  have hq := powI_pos (n : Int)
  go_enter Try.func60, Try.ntmps60
  go_wp2
  go_ret
  exact ⟨ret_int (by
    have : wrap64 (2 ^ ((n : Int)).toNat) = powI n := IntWalk.wrap64_in _ ⟨by unfold powI at hq; omega, by unfold powI at hp; omega⟩
    simp only [Int.toNat_natCast] at this
    rw [this]; exact IntWalk.wrap64_in _ ⟨by omega, by omega⟩), rfl⟩
end Go.Proofs.Ytmlihbcffndnbaa
