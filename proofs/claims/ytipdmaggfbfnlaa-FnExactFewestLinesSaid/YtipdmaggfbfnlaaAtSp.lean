/- The index of a number in a list: the model's. -/
import Derived.Test.YtipdmaggfbfnlaaGb
import Derived.Test.YtipdmaggfbfnlaaIsLineS
import Derived.Test.YtipdmaggfbfnlaaGa
set_option linter.unusedVariables false
set_option linter.unusedSimpArgs false
namespace Go.Proofs.Ytipdmaggfbfnlaa
open Go.RowKit Go.Shelf
attribute [local go_sem] Oper.semAt_some

set_option maxHeartbeats 1000000 in
theorem at_any (A : Option Addr) (n c B : Nat) (ls : List Int) (x : Int) (w : World) (h : Ints w B A n ls) (hn : n ≤ 1152921504606846976) :
    Calls Try.prog 68 #[.slice A n c, .int .i64 x] w fun e w' => e = .returned (.int .i64 (atI ls x)) ∧ w' = w := by
  have hlen := Lib.hid h.len
  go_enter Try.func68, Try.ntmps68
  go_wp2
  go_loop [5] (fun i => ∃ k : Nat, k ≤ n ∧ i = .int .i64 k ∧ ∀ j, j < k → ls[j]?.getD 0 ≠ x) (fun i => n - (intOf i).toNat)
  case atStart => exact ⟨0, by omega, rfl, fun j hj => by omega⟩
  case round =>
    obtain ⟨k, hk, rfl, hok⟩ := hrel
    have Hok := Lib.hid hok
    clear hok
    by_cases hlt : k < n
    · obtain ⟨b, off, rfl, hb, hc⟩ := h.at_ hlt
      have hck := hc k hlt
      clear hc
      by_cases hx : ls[k]?.getD 0 = x
      · have Ht := Lib.hid (atI_hit Hok.out (by rw [hlen.out]; exact hlt) hx)
        have hxx : (ls[k]?.getD 0 == x) = true := by simp [hx]
        clear hx
        generalize ls[k]?.getD 0 = y at *
        go_wp2
        go_ret
        exact ⟨ret_int Ht.out.symm, rfl⟩
      · have Hn := Lib.hid hx
        have hxx : (ls[k]?.getD 0 == x) = false := by simp [hx]
        clear hx
        generalize hy : ls[k]?.getD 0 = y at *
        have Hy := Lib.hid hy
        clear hy
        go_wp2
        go_round
        case rel => exact ⟨k + 1, by omega, by go_num, all_snoc Hok.out (by rw [Hy.out]; exact Hn.out)⟩
        case measure => simp [intOf]; omega
    · obtain rfl : k = n := by omega
      have Ht := Lib.hid (atI_none (l := ls) (x := x) (by rw [hlen.out]; exact Hok.out))
      go_wp2
      go_ret
      exact ⟨ret_int Ht.out.symm, rfl⟩

end Go.Proofs.Ytipdmaggfbfnlaa
