/- Whether lists of lists are equal, as the laws see it, and whether a list is one of lists. -/
import Derived.Test.YtghogabmkbadjabGa
import Derived.Test.YtghogabmkbadjabEqI
set_option linter.unusedVariables false
set_option linter.unusedSimpArgs false
namespace Go.Proofs.Ytghogabmkbadjab
open Go.RowKit
set_option maxHeartbeats 1000000 in
/-- Whether rows are equal. -/
theorem equalRows_any (A A' : Option Addr) (n c n' c' B B' : Nat) (xs ys : List (List Int)) (w : World) (hA : IntsS w B A n xs) (hA' : IntsS w B' A' n' ys) (hbig : n ≤ 1048576) (hbig' : n' ≤ 1048576)
    (hx : ∀ r ∈ xs, r.length ≤ 1048576) (hy : ∀ r ∈ ys, r.length ≤ 1048576) :
    Calls Try.prog 48 #[.slice A n c, .slice A' n' c'] w fun e w' => e = .returned (.bool (decide (xs = ys))) ∧ ∃ m, w' = w.drewN m := by
  have hlen := Lib.hid hA.len
  have hlen' := Lib.hid hA'.len
  have hrow : ∀ (zs : List (List Int)) (k : Nat), (∀ r ∈ zs, r.length ≤ 1048576) → (zs[k]?.getD []).length ≤ 1048576 := fun zs k hz => by
    cases h : zs[k]? with
    | none => simp
    | some r => exact hz r (List.mem_of_getElem? h)
  by_cases hnn : n = n'
  · subst hnn
    go_enter Try.func48, Try.ntmps48
    go_wp2
    go_loopw [5] (fun i wr => ∃ k m : Nat, k ≤ n ∧ i = .int .i64 k ∧ (∀ a, a < k → xs[a]?.getD [] = ys[a]?.getD []) ∧ wr = w.drewN m) (fun i _ => n - (intOf i).toNat)
    case atStart => exact ⟨0, 0, by omega, rfl, fun a ha => by omega, rfl⟩
    case round =>
      obtain ⟨k, m, hk, rfl, hok, rfl⟩ := hrel
      have Hok := Lib.hid hok
      clear hok
      by_cases hlt : k < n
      · obtain ⟨b, off, rfl, _, hc⟩ := hA.at_ hlt
        obtain ⟨b', off', rfl, _, hc'⟩ := hA'.at_ hlt
        obtain ⟨R1, c1, hck, hR1⟩ := hc k hlt
        obtain ⟨R2, c2, hck', hR2⟩ := hc' k hlt
        have Hc := Lib.hid hc
        have Hc' := Lib.hid hc'
        clear hc hc'
        have hx1 := hrow xs k hx
        have hy1 := hrow ys k hy
        cases hne : decide (xs[k]?.getD [] = ys[k]?.getD [])
        · have Hne := Lib.hid (show decide (xs = ys) = false by
            simp only [decide_eq_false_iff_not]; rintro rfl; simp at hne)
          have Hnk := Lib.hid hne
          clear hne
          go_wp2
          go_quiet ((go_at_call 27; exact quiet_any (equalInts_any _ _ _ _ _ _ B B' _ _ _ (hR1.drewN _) (hR2.drewN _) (by omega) (by omega))))
          rw [Hnk.out]
          go_wp2
          go_ret
          exact ⟨ret_bool Hne.out.symm, by first | exact ⟨_, rfl⟩ | exact ⟨_, World.drewN_drewN ..⟩⟩
        · have Heq := Lib.hid (show xs[k]?.getD [] = ys[k]?.getD [] by simpa using hne)
          have Hnk := Lib.hid hne
          clear hne
          go_wp2
          go_quiet ((go_at_call 27; exact quiet_any (equalInts_any _ _ _ _ _ _ B B' _ _ _ (hR1.drewN _) (hR2.drewN _) (by omega) (by omega))))
          rw [Hnk.out]
          go_wp2
          go_roundw
          case rel => exact ⟨k + 1, _, by omega, by go_num, all_snoc Hok.out Heq.out, rfl⟩
          case measure => simp [intOf]; omega
      · obtain rfl : k = n := by omega
        have Heq := Lib.hid (show decide (xs = ys) = true by
          simp only [decide_eq_true_eq]
          refine List.ext_getElem? fun i => ?_
          by_cases hi : i < xs.length
          · have h1 := Hok.out i (by rw [← hlen.out]; exact hi)
            have hi' : i < ys.length := by rw [hlen'.out, ← hlen.out]; exact hi
            rw [List.getElem?_eq_getElem hi, List.getElem?_eq_getElem hi'] at h1 ⊢
            simpa using h1
          · rw [List.getElem?_eq_none (by omega), List.getElem?_eq_none (by rw [hlen'.out, ← hlen.out]; omega)])
        go_wp2
        go_ret
        exact ⟨ret_bool Heq.out.symm, _, rfl⟩
  · have Hne := Lib.hid (show decide (xs = ys) = false by
      simp only [decide_eq_false_iff_not]; rintro rfl; exact hnn (hlen.out.symm.trans hlen'.out))
    have hnb : ((n : Int) != (n' : Int)) = true := by simp; omega
    go_enter Try.func48, Try.ntmps48
    go_wp2
    go_ret
    exact ⟨ret_bool Hne.out.symm, 0, rfl⟩
theorem equalRowsSame_any (A A' : Option Addr) (n c n' c' B B' : Nat) (xs : List (List Int)) (w : World) (hA : IntsS w B A n xs) (hA' : IntsS w B' A' n' xs) (hbig : n ≤ 1048576) (hbig' : n' ≤ 1048576) (hx : ∀ r ∈ xs, r.length ≤ 1048576) :
    Calls Try.prog 48 #[.slice A n c, .slice A' n' c'] w fun e w' => e = .returned (.bool true) ∧ Below w.heap.size w w' := by
  have h := below_quiet (equalRows_any A A' n c n' c' B B' xs xs w hA hA' hbig hbig' hx hx)
  refine h.mono ?_
  rintro e w' ⟨rfl, hB⟩
  exact ⟨by simp, hB⟩
end Go.Proofs.Ytghogabmkbadjab
