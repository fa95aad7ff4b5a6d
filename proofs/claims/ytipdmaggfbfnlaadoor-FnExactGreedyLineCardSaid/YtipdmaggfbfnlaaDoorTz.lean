/- The first item of a set: the program's, by the library's table. -/
import Derived.Test.YtipdmaggfbfnlaaDoorGb
set_option linter.unusedVariables false
set_option linter.unusedSimpArgs false
namespace Go.Proofs.YtipdmaggfbfnlaaDoor
open Go.RowKit

/-- The table of the library holds at the places of the powers which ones they are. -/
def Tab (w : World) : Prop := ∀ a : Nat, a < 6 → w.cell? ⟨1, 2 ^ a - 1, none⟩ = some (.int .u8 (a : Int))
theorem Tab.below {w w' : World} {B : Nat} (h : Tab w) (hb : Below B w w') (hB : 1 < B) : Tab w' := fun a ha => (World.cell?_of_block (hb.block 1 hB)).trans (h a ha)
theorem tz_and_fin : ∀ s : Fin 64, s.val ≠ 0 → bits .and .u64 (s.val : Int) (IntKind.u64.wrap (-(s.val : Int))) = ((2 ^ low s.val : Nat) : Int) := by decide +kernel
theorem tz_mul_fin : ∀ a : Fin 6, 2 ^ a.val * 285870213051353865 / 288230376151711744 = 2 ^ a.val - 1 := by decide +kernel

set_option maxHeartbeats 2000000 in
theorem tz_any (s : Nat) (h0 : s ≠ 0) (h1 : s < 64) (w : World) (hT : Tab w) :
    Calls Tryd.prog 34 #[.int .u64 (s : Int)] w fun e w' => e = .returned (.int .i64 (low s : Int)) ∧ w = w' := by
  have ha := low_fin ⟨s, h1⟩ h0
  have h2 := tz_and_fin ⟨s, h1⟩ h0
  simp only at ha h2
  have h3 := tz_mul_fin ⟨low s, ha.1⟩
  simp only at h3
  have hc := hT (low s) ha.1
  have hne : ((s : Int) == 0) = false := by simpa using h0
  obtain ⟨a, hla⟩ : ∃ a, low s = a := ⟨_, rfl⟩
  rw [hla] at ha h2 h3 hc ⊢
  have hpa := ha.1
  clear hla ha hT
  have hp : 2 ^ a ≤ 32 := by
    have : (2 : Nat) ^ a ≤ 2 ^ 5 := Nat.pow_le_pow_right (by decide) (by omega)
    omega
  have hp0 := Nat.two_pow_pos a
  obtain ⟨p, hpp⟩ : ∃ p, 2 ^ a = p := ⟨_, rfl⟩
  rw [← h3] at hc
  rw [hpp] at h2 hp hp0 hc
  clear hpp h3
  go_enter Tryd.func34, Tryd.ntmps34
  go_wp2
  go_ret
  exact ⟨ret_int (by first | rfl | omega), rfl⟩
theorem first_any (s : Nat) (h0 : s ≠ 0) (h1 : s < 64) (w : World) (hT : Tab w) :
    Calls Tryd.prog 22 #[.int .i64 (s : Int)] w fun e w' => e = .returned (.int .i64 (low s : Int)) ∧ w = w' := by
  go_enter Tryd.func22, Tryd.ntmps22
  go_wp2_with fail
  go_enter Tryd.func29, Tryd.ntmps29
  go_wp2_with fail
  refine (tz_any s h0 h1 w hT).mono ?_
  rintro e w' ⟨rfl, rfl⟩
  go_wp2_with fail
  go_ret
  exact ⟨rfl, rfl⟩
end Go.Proofs.YtipdmaggfbfnlaaDoor
