/- 'listOf': the items of a set. -/
import Derived.Test.YtogiooecjfnkcaaCovers
namespace Go.Proofs.Ytogiooecjfnkcaa
open Go.RowKit

/-- Shifted past all items. -/
theorem shr_over {s : Int} {j : Nat} (h0 : 0 ≤ s) : (0 < s / 2 ^ j) ↔ powI j ≤ s := by
  have hp : (0 : Int) < 2 ^ j := Int.pow_pos (by omega)
  unfold powI
  rw [Int.toNat_natCast]
  constructor
  · intro h
    by_cases hs : 2 ^ j ≤ s
    · exact hs
    · rw [Int.ediv_eq_zero_of_lt h0 (by omega)] at h; omega
  · intro h
    exact Int.lt_iff_add_one_le.2 ((Int.le_ediv_iff_mul_le hp).2 (by omega))

set_option maxHeartbeats 2000000 in
theorem listOf_any (s : Int) (w : World) (h0 : 0 ≤ s) (h1 : s < 64) :
    Calls Try.prog 60 #[.int .i64 s] w fun e w' => ∃ A' c', e = .returned (.slice A' (itemsL s).length c') ∧ Ints w' w'.heap.size A' (itemsL s).length ((itemsL s).map fun x : Nat => (x : Int)) ∧ Below w.heap.size w w' ∧ ∀ p, A' = some p → w.heap.size ≤ p.block := by
  obtain ⟨i0, hi0, hz0, hz1, hz2⟩ := info_parts infoInt
  go_enter Try.func60, Try.ntmps60
  go_wp2
  go_loopw [3, 4] (fun v i wr => ∃ j : Nat, j ≤ 6 ∧ i = .int .i64 j ∧ wr.ownsRow w.heap.size 3 1 v (itemsTo s j).length (((itemsTo s j).map fun x : Nat => (x : Int)).map (Value.int .i64)) ∧ Upd (fun _ => False) w wr) (fun _ i _ => 6 - (intOf i).toNat)
  case atStart => exact ⟨0, by omega, rfl, own_new _ _, (Upd.refl _ _).alloc _⟩
  case round =>
    obtain ⟨j, hj, rfl, hown, hU⟩ := hrel
    by_cases hsh : 0 < s / 2 ^ j
    · have hjs := (shr_over h0).1 hsh
      have hj6 : j < 6 := by
        rcases Nat.lt_or_ge j 6 with h | h
        · exact h
        · obtain rfl : j = 6 := by omega
          simp [powI] at hjs; omega
      cases hbit : bitB s j
      · have hbi : (bitI s j == 1) = false := by rw [bitI_one, hbit]
        have Hn := Lib.hid (itemsTo_no hbit)
        go_wp2_with (go_at_call 54; refine (bit_any _ _ _ (by omega) (by omega) (by omega) (by omega)).mono ?_; rintro e w' ⟨rfl, rfl⟩)
        go_roundw
        case rel => exact ⟨j + 1, by omega, by go_num, by rw [Hn.out]; exact hown, hU⟩
        case measure => simp [intOf]; omega
      · have hbi : (bitI s j == 1) = true := by rw [bitI_one, hbit]
        have Hn := Lib.hid (itemsTo_yes hbit)
        have hln : (itemsTo s j).length ≤ 6 := Nat.le_trans (List.length_filter_le _ _) (by simp; omega)
        go_wp2_with (first
          | (go_at_call 54; refine (bit_any _ _ _ (by omega) (by omega) (by omega) (by omega)).mono ?_; rintro e w' ⟨rfl, rfl⟩)
          | (at_builtin; refine wpList_append1 _ rfl (.tmp 16) (.tmp 18) _ rfl w.heap.size 3 i0 _ 8 Try.underlying22 hi0 hz0 hz1 hz2 rfl _ (itemsTo s j).length _ rfl (hown.alloc _) wr.heap.size 1 (.int .i64 j) rfl (cell_new _ _ _) rfl (by omega) (by omega) (by have := hU.size; simp; omega) ?_; rintro v' w' hown' hg' -))
        go_roundw
        case rel => exact ⟨j + 1, by omega, by go_num, by rw [Hn.out, List.map_append, List.map_append, List.length_append]; exact hown', (hU.alloc _).grown hg' (fun k hk => .inl (own_base hown k hk))⟩
        case measure => simp [intOf]; omega
    · have Hall := Lib.hid (itemsTo_all (s := s) (n := j) (by have := mt (shr_over (j := j) h0).2 hsh; omega) hj)
      rw [Hall.out] at hown
      obtain ⟨A', c', rfl, hI, hA'⟩ := ints_of_own_at hown
      go_wp2
      go_ret
      exact ⟨A', ⟨c', rfl⟩, hI, hU.toBelow (fun _ e => e.elim) (Nat.le_refl _), hA'⟩
end Go.Proofs.Ytogiooecjfnkcaa
