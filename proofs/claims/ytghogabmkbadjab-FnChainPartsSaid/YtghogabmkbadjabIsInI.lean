/- The laws' isIn and ascends. -/
import Derived.Test.YtghogabmkbadjabEqI
set_option linter.unusedVariables false
set_option linter.unusedSimpArgs false
namespace Go.Proofs.Ytghogabmkbadjab
open Go.RowKit
set_option linter.unusedVariables false

set_option maxRecDepth 100000 in
theorem ascends_any (A : Option Addr) (n c B : Nat) (xs : List Int) (w : World) (hA : Ints w B A n xs) (hbig : n ≤ 1152921504606846976) (ho : ∀ i : Nat, 0 < i → i < n → xs[i - 1]?.getD 0 < xs[i]?.getD 0) :
    Calls Try.prog 40 #[.slice A n c] w fun e w' => e = .returned (.bool true) ∧ ∃ m, w' = w.drewN m := by
  have hlen := Lib.hid hA.len
  have Ho := Lib.hid ho
  clear ho
  go_enter Try.func40, Try.ntmps40
  go_wp2
  go_loopw [3] (fun i wr => ∃ k m : Nat, i = .int .i64 ((k + 1 : Nat) : Int) ∧ k ≤ n ∧ wr = w.drewN m) (fun i _ => n + 1 - (intOf i).toNat)
  case atStart => exact ⟨0, 0, by go_num, by omega, rfl⟩
  case round =>
    obtain ⟨k, m, rfl, hk, rfl⟩ := hrel
    by_cases hlt : k + 1 < n
    · obtain ⟨b, off, rfl, _, hc⟩ := hA.at_ (show 0 < n by omega)
      have hck := hc (k + 1) hlt
      have hck' := hc k (by omega)
      have hlq : ¬ xs[k + 1]?.getD 0 ≤ xs[k]?.getD 0 := by have := Ho.out (k + 1) (by omega) hlt; simp only [Nat.add_sub_cancel] at this; omega
      have hw1 : wrap64 (((k + 1 : Nat) : Int) - 1) = (k : Int) := by rw [show ((k + 1 : Nat) : Int) - 1 = (k : Int) by omega]; exact IntWalk.wrap64_in (k : Int) ⟨by omega, by omega⟩
      have Hc := Lib.hid hc
      clear hc
      go_wp2
      go_quiet (fail)
      go_wp2
      go_roundw
      case rel => exact ⟨k + 1, _, by go_num, by omega, rfl⟩
      case measure => simp [intOf]; omega
    · go_wp2
      go_ret
      exact ⟨rfl, by first | exact ⟨_, rfl⟩ | exact ⟨_, World.drewN_drewN ..⟩⟩
end Go.Proofs.Ytghogabmkbadjab
