/- Whether one row is less, as the laws see it. -/
import Derived.Test.YtghogabmkbadjabGd
import Derived.Test.YtghogabmkbadjabEqI
set_option linter.unusedVariables false
set_option linter.unusedSimpArgs false
namespace Go.Proofs.Ytghogabmkbadjab
open Go.RowKit

theorem lessRB_drop : ∀ (k : Nat) (xs ys : List Int), k ≤ xs.length → k ≤ ys.length → (∀ j, j < k → xs[j]?.getD 0 = ys[j]?.getD 0) → lessRB xs ys = lessRB (xs.drop k) (ys.drop k)
  | 0, _, _, _, _, _ => rfl
  | k + 1, [], _, h, _, _ => by simp at h
  | k + 1, _ :: _, [], _, h, _ => by simp at h
  | k + 1, x :: xs, y :: ys, h1, h2, h => by
    have h0 := h 0 (by omega)
    simp at h0
    subst h0
    have ih := lessRB_drop k xs ys (by simpa using h1) (by simpa using h2) (fun j hj => by simpa using h (j + 1) (by omega))
    show (if x = x then lessRB xs ys else decide (x < x)) = _
    rw [if_pos rfl, ih]
    rfl
theorem lessRB_at {xs ys : List Int} {k : Nat} (h1 : k < xs.length) (h2 : k < ys.length) (h : ∀ j, j < k → xs[j]?.getD 0 = ys[j]?.getD 0) (hne : xs[k]?.getD 0 ≠ ys[k]?.getD 0) : lessRB xs ys = decide (xs[k]?.getD 0 < ys[k]?.getD 0) := by
  rw [lessRB_drop k xs ys (by omega) (by omega) h, List.drop_eq_getElem_cons h1, List.drop_eq_getElem_cons h2]
  rw [List.getElem?_eq_getElem h1, List.getElem?_eq_getElem h2] at hne ⊢
  simp only [Option.getD_some] at hne ⊢
  show (if xs[k] = ys[k] then _ else decide (xs[k] < ys[k])) = _
  rw [if_neg hne]
theorem lessRB_end {xs ys : List Int} {k : Nat} (h1 : k ≤ xs.length) (h2 : k ≤ ys.length) (h3 : k = xs.length ∨ k = ys.length) (h : ∀ j, j < k → xs[j]?.getD 0 = ys[j]?.getD 0) : lessRB xs ys = false := by
  rw [lessRB_drop k xs ys h1 h2 h]
  rcases h3 with e | e
  · have e1 : xs.drop k = [] := List.drop_eq_nil_of_le (by omega)
    rw [e1]; rfl
  · have e1 : ys.drop k = [] := List.drop_eq_nil_of_le (by omega)
    rw [e1]
    cases xs.drop k <;> rfl

set_option maxHeartbeats 1000000 in
theorem lessRow_any (A A' : Option Addr) (n c n' c' B B' : Nat) (xs ys : List Int) (w : World) (hA : Ints w B A n xs) (hA' : Ints w B' A' n' ys) (hbig : n ≤ 1152921504606846976) (hbig' : n' ≤ 1152921504606846976) :
    Calls Try.prog 50 #[.slice A n c, .slice A' n' c'] w fun e w' => e = .returned (.bool (lessRB xs ys)) ∧ ∃ m, w' = w.drewN m := by
  have hlen := Lib.hid hA.len
  have hlen' := Lib.hid hA'.len
  go_enter Try.func50, Try.ntmps50
  go_wp2
  go_loopw [5] (fun i wr => ∃ k m : Nat, k ≤ n ∧ k ≤ n' ∧ i = .int .i64 k ∧ (∀ a, a < k → xs[a]?.getD 0 = ys[a]?.getD 0) ∧ wr = w.drewN m) (fun i _ => n - (intOf i).toNat)
  case atStart => exact ⟨0, 0, by omega, by omega, rfl, fun a ha => by omega, rfl⟩
  case round =>
    obtain ⟨k, m, hk, hk', rfl, hok, rfl⟩ := hrel
    have Hok := Lib.hid hok
    clear hok
    by_cases hlt : k < n
    · by_cases hlt' : k < n'
      · obtain ⟨b, off, rfl, _, hc⟩ := hA.at_ hlt
        obtain ⟨b', off', rfl, _, hc'⟩ := hA'.at_ hlt'
        have hck := hc k hlt
        have hck' := hc' k hlt'
        have Hc := Lib.hid hc
        have Hc' := Lib.hid hc'
        clear hc hc'
        cases hne : (xs[k]?.getD 0 != ys[k]?.getD 0)
        · have Heq := Lib.hid (show xs[k]?.getD 0 = ys[k]?.getD 0 by simpa [bne] using hne)
          go_wp2
          go_quiet (fail)
          go_wp2
          go_roundw
          case rel => exact ⟨k + 1, _, by omega, by omega, by go_num, all_snoc Hok.out Heq.out, rfl⟩
          case measure => simp [intOf]; omega
        · have Hne := Lib.hid (lessRB_at (xs := xs) (ys := ys) (k := k) (by rw [hlen.out]; exact hlt) (by rw [hlen'.out]; exact hlt') Hok.out (by simpa [bne] using hne))
          generalize xs[k]?.getD 0 = x at *
          generalize ys[k]?.getD 0 = y at *
          go_wp2
          go_quiet (fail)
          go_wp2
          go_quiet (fail)
          go_wp2
          go_ret
          exact ⟨ret_bool Hne.out.symm, by first | exact ⟨_, rfl⟩ | exact ⟨_, (congrArg (fun z => World.drewN z _) (World.drewN_drewN ..)).trans (World.drewN_drewN ..)⟩⟩
      · obtain rfl : k = n' := by omega
        have Hf := Lib.hid (lessRB_end (xs := xs) (ys := ys) (k := k) (by rw [hlen.out]; exact hk) (by rw [hlen'.out]; exact Nat.le_refl _) (.inr (by rw [hlen'.out])) Hok.out)
        go_wp2
        go_ret
        exact ⟨ret_bool Hf.out.symm, _, rfl⟩
    · obtain rfl : k = n := by omega
      have Hf := Lib.hid (lessRB_end (xs := xs) (ys := ys) (k := k) (by rw [hlen.out]; exact Nat.le_refl _) (by rw [hlen'.out]; exact hk') (.inl (by rw [hlen.out])) Hok.out)
      go_wp2
      go_ret
      exact ⟨ret_bool Hf.out.symm, _, rfl⟩
end Go.Proofs.Ytghogabmkbadjab
