/- The program's lineup: its making, what is free, all items; an item less. -/
import Derived.Test.YtdcdddmjffgibaaGreatGc
import Derived.Test.YtdcdddmjffgibaaGreatGa
import Derived.Maps.Own
set_option linter.unusedVariables false
set_option linter.unusedSimpArgs false
namespace Go.Proofs.YtdcdddmjffgibaaGreat
open Go.RowKit Go.Shelf

/-- A lineup: the order turned round in block b, the map in block m. -/
def lineV (b m n : Nat) : Value := .agg #[.slice (some ⟨b, 0, none⟩) n n, .map (some m)]

theorem oall_any (A : Option Addr) (n c : Nat) (w : World) (h1 : n ≤ 6) :
    Calls Tryz.prog 64 #[.slice A n c] w fun e w' => e = .returned (.int .i64 (powI n - 1)) ∧ w = w' := by
  have hp := powI_le6 (n := (n : Int)) (by omega)
  have hq := powI_pos (n : Int)
  go_enter Tryz.func64, Tryz.ntmps64
  go_wp2
  go_ret
  exact ⟨ret_int (by
    have : wrap64 (2 ^ ((n : Int)).toNat) = powI n := IntWalk.wrap64_in _ ⟨by unfold powI at hq; omega, by unfold powI at hp; omega⟩
    simp only [Int.toNat_natCast] at this
    rw [this]; exact IntWalk.wrap64_in _ ⟨by omega, by omega⟩), rfl⟩
end Go.Proofs.YtdcdddmjffgibaaGreat
