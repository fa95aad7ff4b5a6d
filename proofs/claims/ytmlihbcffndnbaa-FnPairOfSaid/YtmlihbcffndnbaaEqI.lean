/- 'equalInts': whether two lists are equal. -/
import Derived.Test.YtmlihbcffndnbaaGa
set_option linter.unusedVariables false
set_option linter.unusedSimpArgs false
namespace Go.Proofs.Ytmlihbcffndnbaa
open Go.RowKit

set_option maxHeartbeats 1000000 in
/-- Whether two lists are equal. -/
theorem equalInts_any (A A' : Option Addr) (n c n' c' B B' : Nat) (xs ys : List Int) (w : World) (hA : Ints w B A n xs) (hA' : Ints w B' A' n' ys) (hbig : n ≤ 1152921504606846976) (hbig' : n' ≤ 1152921504606846976) :
    Calls Try.prog 32 #[.slice A n c, .slice A' n' c'] w fun e w' => e = .returned (.bool (decide (xs = ys))) ∧ ∃ m, w' = w.drewN m := by
  have hlen := Lib.hid hA.len
  have hlen' := Lib.hid hA'.len
  by_cases hnn : n = n'
  · subst hnn
    go_enter Try.func32, Try.ntmps32
    go_wp2
    go_loopw [5] (fun i wr => ∃ k m : Nat, k ≤ n ∧ i = .int .i64 k ∧ (∀ a, a < k → xs[a]?.getD 0 = ys[a]?.getD 0) ∧ wr = w.drewN m) (fun i _ => n - (intOf i).toNat)
    case atStart => exact ⟨0, 0, by omega, rfl, fun a ha => by omega, rfl⟩
    case round =>
      obtain ⟨k, m, hk, rfl, hok, rfl⟩ := hrel
      have Hok := Lib.hid hok
      clear hok
      by_cases hlt : k < n
      · obtain ⟨b, off, rfl, _, hc⟩ := hA.at_ hlt
        obtain ⟨b', off', rfl, _, hc'⟩ := hA'.at_ hlt
        have hck := hc k hlt
        have hck' := hc' k hlt
        have Hc := Lib.hid hc
        have Hc' := Lib.hid hc'
        clear hc hc'
        cases hne : (xs[k]?.getD 0 != ys[k]?.getD 0)
        · have Heq := Lib.hid (show xs[k]?.getD 0 = ys[k]?.getD 0 by simpa [bne] using hne)
          go_wp2
          go_quiet (fail)
          go_wp2
          go_roundw
          case rel => exact ⟨k + 1, _, by omega, by go_num, all_snoc Hok.out Heq.out, rfl⟩
          case measure => simp [intOf]; omega
        · have Hne := Lib.hid (show decide (xs = ys) = false by
            simp only [decide_eq_false_iff_not]; rintro rfl; simp at hne)
          go_wp2
          go_quiet (fail)
          go_wp2
          go_ret
          exact ⟨ret_bool Hne.out.symm, by first | exact ⟨_, rfl⟩ | exact ⟨_, World.drewN_drewN ..⟩⟩
      · obtain rfl : k = n := by omega
        have Heq := Lib.hid (show decide (xs = ys) = true by
          simp only [decide_eq_true_eq]
          refine List.ext_getElem? fun i => ?_
          by_cases hi : i < xs.length
          · have h1 := Hok.out i (by rw [← hlen.out]; exact hi)
            have hi' : i < ys.length := by rw [hlen'.out, ← hlen.out]; exact hi
            rw [List.getElem?_eq_getElem hi, List.getElem?_eq_getElem hi'] at h1 ⊢
            simpa using h1
          · rw [List.getElem?_eq_none (by omega), List.getElem?_eq_none (by rw [hlen'.out, ← hlen.out]; omega)])
        go_wp2
        go_ret
        exact ⟨ret_bool Heq.out.symm, _, rfl⟩
  · have Hne := Lib.hid (show decide (xs = ys) = false by
      simp only [decide_eq_false_iff_not]; rintro rfl; exact hnn (hlen.out.symm.trans hlen'.out))
    have hnb : ((n : Int) != (n' : Int)) = true := by simp; omega
    go_enter Try.func32, Try.ntmps32
    go_wp2
    go_ret
    exact ⟨ret_bool Hne.out.symm, 0, rfl⟩
theorem equalSame_any (A A' : Option Addr) (n c n' c' B B' : Nat) (xs : List Int) (w : World) (hA : Ints w B A n xs) (hA' : Ints w B' A' n' xs) (hbig : n ≤ 1152921504606846976) (hbig' : n' ≤ 1152921504606846976) :
    Calls Try.prog 32 #[.slice A n c, .slice A' n' c'] w fun e w' => e = .returned (.bool true) ∧ Below w.heap.size w w' := by
  have h := below_quiet (equalInts_any A A' n c n' c' B B' xs xs w hA hA' hbig hbig')
  refine h.mono ?_
  rintro e w' ⟨rfl, hB⟩
  exact ⟨by simp, hB⟩
end Go.Proofs.Ytmlihbcffndnbaa
