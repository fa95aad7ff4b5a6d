/- The laws' list of the numbers from 0 up. -/
import Derived.Test.YtmlihbcffndnbaaMpO
import Derived.Test.YtmlihbcffndnbaaGxa
import Derived.Test.YtmlihbcffndnbaaAppend
import Derived.Test.YtmlihbcffndnbaaGxb
set_option linter.unusedVariables false
set_option linter.unusedSimpArgs false
namespace Go.Proofs.Ytmlihbcffndnbaa
open Go.RowKit Go.Shelf
attribute [local go_sem] Oper.semAt_some
attribute [local go_sem, local simp] wide_fn

set_option maxRecDepth 100000 in
set_option maxHeartbeats 2000000 in
theorem upto_any (n : Nat) (w : World) (hn : n ≤ 1000) :
    Calls Try.prog 28 #[.int .i64 (n : Int)] w fun e w' => ∃ A c, e = .returned (.slice A n c) ∧ Ints w' w'.heap.size A n (uptoL n) ∧ Below w.heap.size w w' := by
  obtain ⟨i0, hi0, hz0, hz1, hz2⟩ := info_parts infoInt
  have hown := own_new w 3
  have hO1 : OwnS (fun j => w.heap.size ≤ j) (w.alloc (.cells #[] 3)) w.heap.size 3 (.slice (some ⟨w.heap.size, 0, none⟩) 0 0) (uptoL 0) := ⟨fun j hj => by simp [Value.ownBlock] at hj; omega, hown⟩
  have hB1 : Below w.heap.size w (w.alloc (.cells #[] 3)) := (Below.refl _ _).alloc (Nat.le_refl _) _
  clear hown
  go_enter Try.func28, Try.ntmps28
  go_wp2_with fail
  obtain ⟨w1, hw1⟩ : ∃ w1, w.alloc (.cells #[] 3) = w1 := ⟨_, rfl⟩
  rw [hw1] at hO1 hB1 ⊢
  clear hw1
  go_loopw [3, 4] (fun v0 i wr => ∃ (x : Nat) (v : Value), v = v0 ∧ x ≤ n ∧ i = .int .i64 x ∧ OwnS (fun j => w.heap.size ≤ j) wr w.heap.size 3 v (uptoL x) ∧ Below w.heap.size w wr) (fun _ i _ => n - (intOf i).toNat)
  case atStart => exact ⟨0, _, rfl, by omega, rfl, hO1, hB1⟩
  case round =>
    clear hO1 hB1
    obtain ⟨x, v, rfl, hx, rfl, hO, hB⟩ := hrel
    rename World => wy
    have zy := hB.size
    have Hl := Lib.hid (uptoL_len x)
    by_cases hlt : x < n
    · have hvb := hO.1
      have Hs := Lib.hid (uptoL_succ x)
      go_wp2_with (at_builtin; refine wpList_append1 _ rfl (.tmp 11) (.tmp 13) _ rfl w.heap.size 3 i0 _ 8 Try.underlying22 hi0 hz0 hz1 hz2 rfl _ (uptoL x).length _ rfl (hO.2.alloc _) wy.heap.size 1 (.int .i64 (x : Int)) rfl (cell_new _ _ _) rfl (by rw [Hl.out]; omega) (by rw [Hl.out]; omega) (by simp; omega) ?_; go_loud (rintro v' w' hown' hg' hv'; have hU7 : Upd (fun j => w.heap.size ≤ j) wy w' := ((Upd.refl (fun j => w.heap.size ≤ j) wy).alloc _).grown hg' (fun j hj => .inr (hvb j hj)); have hO7 : OwnS (fun j => w.heap.size ≤ j) w' w.heap.size 3 v' (uptoL (x + 1)) := (by rw [Hs.out]; exact OwnS.step hO hown' hv' (fun j hj => hj) (fun _ => by omega))))
      go_roundw
      case rel => exact ⟨x + 1, _, rfl, by omega, by go_num, hO7, hB.trans (hU7.toBelow (fun j hj => hj) zy)⟩
      case measure => simp [intOf]; omega
    · obtain rfl : x = n := by omega
      obtain ⟨A7, c7, rfl, hI7⟩ := ints_of_own hO.2
      rw [Hl.out] at hI7 ⊢
      clear hO
      go_wp2
      go_ret
      exact ⟨_, _, rfl, hI7, hB⟩
end Go.Proofs.Ytmlihbcffndnbaa
