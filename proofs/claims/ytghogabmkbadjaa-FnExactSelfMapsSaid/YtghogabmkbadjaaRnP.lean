/- SelfMaps, CanonOf, MapOrder: the program's helpers. -/
import Derived.Test.YtghogabmkbadjaaRnJ
import Derived.Test.YtghogabmkbadjaaRnT
import Derived.Test.YtghogabmkbadjaaLessR
import Derived.Test.YtghogabmkbadjaaOeI
set_option linter.unusedVariables false
set_option linter.unusedSimpArgs false
namespace Go.Proofs.Ytghogabmkbadjaa
open Go.RowKit Go.Shelf
attribute [local go_sem] Oper.semAt_some
attribute [local go_sem, local simp] wide_fn

/-- What reading a list that is tried gives. -/
def ReadT (zs : List Int) (n : Nat) (w : World) (e : Ending) (w' : World) : Prop :=
  Below w.heap.size w w' ∧ ((triB zs = true ∧ ∃ b, e = .returned (.tuple #[.slice (some ⟨b, 0, none⟩) n n, .bool true]) ∧ w.heap.size ≤ b ∧ Arr w' b 59 zs) ∨ (triB zs = false ∧ e = .returned (.tuple #[.slice none 0 0, .bool false])))
theorem readTried_any (A : Option Addr) (n c : Nat) (zs : List Int) (w : World) (h : Ints w w.heap.size A n zs) (hbig : n ≤ 1152921504606846976) :
    Calls Try.prog 53 #[.slice A n c] w (ReadT zs n w) := by
  have hlen := Lib.hid h.len
  go_enter Try.func53, Try.ntmps53
  go_wp2_with fail
  refine (readOrder_any _ _ _ zs _ h hbig).mono ?_
  rintro e w1 ⟨hB, (⟨hv, b, rfl, hb, hAr⟩ | ⟨hv, rfl⟩)⟩
  · have hvo : VoP zs := by simpa [vo] using hv
    by_cases hn5 : n ≤ 5
    · have Ht := Lib.hid (triB_of hvo (by rw [hlen.out]; exact hn5))
      clear hv
      go_wp2_with fail
      go_ret2
      exact ⟨hB, .inl ⟨Ht.out, b, rfl, hb, hAr⟩⟩
    · have Ht := Lib.hid (show triB zs = false by unfold triB; rw [hlen.out]; simp [hn5])
      clear hv
      go_wp2_with fail
      go_ret2
      exact ⟨hB, .inr ⟨Ht.out, rfl⟩⟩
  · have Ht := Lib.hid (show triB zs = false by unfold triB; rw [hv]; rfl)
    clear hv
    go_wp2_with fail
    go_ret2
    exact ⟨hB, .inr ⟨Ht.out, rfl⟩⟩

theorem nanI_any (x : Int) (w : World) : Calls Try.prog 104 #[.int .i64 x] w fun e w' => e = .returned (.bool false) ∧ w = w' := by
  have hx : (x != x) = false := by simp
  go_enter Try.func104, Try.ntmps104
  go_wp2
  go_ret
  exact ⟨rfl, rfl⟩
def cmpN (x y : Int) : Int := if x < y then -1 else if y < x then 1 else 0
theorem cmpI_any (x y : Int) (w : World) : Calls Try.prog 96 #[.int .i64 x, .int .i64 y] w fun e w' => e = .returned (.int .i64 (cmpN x y)) ∧ w = w' := by
  rcases Int.lt_trichotomy x y with h | h | h
  · have Ht := Lib.hid (show cmpN x y = -1 by unfold cmpN; rw [if_pos h])
    go_enter Try.func96, Try.ntmps96
    go_wp2_with (go_at_call 104; refine (nanI_any _ _).mono ?_; rintro e w' ⟨rfl, rfl⟩)
    go_ret
    exact ⟨ret_int Ht.out.symm, rfl⟩
  · have Ht := Lib.hid (show cmpN x y = 0 by unfold cmpN; rw [if_neg (by omega), if_neg (by omega)])
    have h1 : decide (x < y) = false := decide_eq_false (by omega)
    have h2 : decide (y < x) = false := decide_eq_false (by omega)
    clear h
    go_enter Try.func96, Try.ntmps96
    go_wp2_with (go_at_call 104; refine (nanI_any _ _).mono ?_; rintro e w' ⟨rfl, rfl⟩)
    go_ret
    exact ⟨ret_int Ht.out.symm, rfl⟩
  · have Ht := Lib.hid (show cmpN x y = 1 by unfold cmpN; rw [if_neg (by omega), if_pos h])
    have h1 : decide (x < y) = false := decide_eq_false (by omega)
    go_enter Try.func96, Try.ntmps96
    go_wp2_with (go_at_call 104; refine (nanI_any _ _).mono ?_; rintro e w' ⟨rfl, rfl⟩)
    go_ret
    exact ⟨ret_int Ht.out.symm, rfl⟩

set_option maxHeartbeats 1000000 in
theorem ocompare_any (A A' : Option Addr) (n c c' B B' : Nat) (xs ys : List Int) (w : World) (hA : Ints w B A n xs) (hA' : Ints w B' A' n ys) (hbig : n ≤ 1152921504606846976) :
    Calls Try.prog 82 #[.slice A n c, .slice A' n c'] w fun e w' => ∃ r : Int, e = .returned (.int .i64 r) ∧ decide (r < 0) = lessRB xs ys ∧ w' = w := by
  have hlen := Lib.hid hA.len
  have hlen' := Lib.hid hA'.len
  go_enter Try.func82, Try.ntmps82
  go_wp2
  go_loop [5, 6, 7, 8, 11] (fun _ _ _ _ i => ∃ k : Nat, k ≤ n ∧ i = .int .i64 k ∧ (∀ a, a < k → xs[a]?.getD 0 = ys[a]?.getD 0)) (fun _ _ _ _ i => n - (intOf i).toNat)
  case atStart => exact ⟨0, by omega, rfl, fun a ha => by omega⟩
  case round =>
    obtain ⟨k, hk, rfl, hok⟩ := hrel
    have Hok := Lib.hid hok
    clear hok
    by_cases hlt : k < n
    · obtain ⟨b, off, rfl, _, hc⟩ := hA.at_ hlt
      obtain ⟨b', off', rfl, _, hc'⟩ := hA'.at_ hlt
      have hck := hc k hlt
      have hck' := hc' k hlt
      have Hc := Lib.hid hc
      have Hc' := Lib.hid hc'
      clear hc hc'
      cases hne : (xs[k]?.getD 0 != ys[k]?.getD 0)
      · have Heq := Lib.hid (show xs[k]?.getD 0 = ys[k]?.getD 0 by simpa [bne] using hne)
        have Hst := Lib.hid (all_snoc (p := fun a => xs[a]?.getD 0 = ys[a]?.getD 0) Hok.out Heq.out)
        have Hz := Lib.hid (show cmpN (xs[k]?.getD 0) (ys[k]?.getD 0) = 0 by unfold cmpN; rw [Heq.out, if_neg (by omega), if_neg (by omega)])
        generalize xs[k]?.getD 0 = x at *
        generalize ys[k]?.getD 0 = y at *
        go_wp2_with fail
        refine (cmpI_any _ _ _).mono ?_
        rw [Hz.out]
        rintro e w' ⟨rfl, rfl⟩
        go_wp2_with fail
        go_round
        case rel => exact ⟨k + 1, by omega, by go_num, Hst.out⟩
        case measure => simp [intOf]; omega
      · have Hne := Lib.hid (lessRB_at (xs := xs) (ys := ys) (k := k) (by rw [hlen.out]; exact hlt) (by rw [hlen'.out]; exact hlt) Hok.out (by simpa [bne] using hne))
        have hxy : xs[k]?.getD 0 ≠ ys[k]?.getD 0 := by simpa [bne] using hne
        have Hxy := Lib.hid hxy
        clear hxy
        generalize xs[k]?.getD 0 = x at *
        generalize ys[k]?.getD 0 = y at *
        have Hz := Lib.hid (show decide (cmpN x y < 0) = decide (x < y) ∧ (cmpN x y != 0) = true by
          have := Hxy.out
          unfold cmpN
          by_cases h1 : x < y
          · rw [if_pos h1]; simp [h1]
          · rw [if_neg h1, if_pos (by omega)]; simp; omega)
        have hnz := Hz.out.2
        go_wp2_with fail
        refine (cmpI_any _ _ _).mono ?_
        rintro e w' ⟨rfl, rfl⟩
        go_wp2_with fail
        go_ret
        exact ⟨_, rfl, Hz.out.1.trans Hne.out.symm, rfl⟩
    · obtain rfl : k = n := by omega
      have Hf := Lib.hid (lessRB_end (xs := xs) (ys := ys) (k := k) (by rw [hlen.out]; exact Nat.le_refl _) (by rw [hlen'.out]; exact Nat.le_refl _) (.inl (by rw [hlen.out])) Hok.out)
      go_wp2
      go_ret
      exact ⟨0, rfl, by rw [Hf.out]; rfl, rfl⟩
end Go.Proofs.Ytghogabmkbadjaa
