/- A set that is drawn, of items of an order most often. -/
import Derived.Test.YtogiooecjfnkcaaGb
namespace Go.Proofs.Ytogiooecjfnkcaa
open Go.RowKit Go.Shelf

set_option maxRecDepth 100000 in
set_option maxHeartbeats 4000000 in
theorem aSet_any (R p n : Nat) (w : World) (h : Rd w R p) (hp : p ≤ 700000) (hn : n ≤ 7) :
    Calls Try.prog 49 #[.pointer (some ⟨R, 0, none⟩), .int .i64 (n : Int)] w fun e w' => ∃ s q, e = .returned (.int .i64 s) ∧ q ≤ 10 ∧ Rd w' R (p + q) ∧ Upd (fun k => k = R) w w' := by
  have hRl := h.lt
  go_enter Try.func49, Try.ntmps49
  go_wp2_with fail
  refine (pick_any R p 24 w h (by omega)).mono ?_
  rintro e w1 ⟨x, rfl, -, hR1, hU1⟩
  have z1 := hU1.size
  by_cases x0 : x = 0
  · subst x0
    have hmin : min (n : Int) 8 = n := by omega
    go_wp2_with (go_at_call 41; with_reducible refine (power_any (n : Int) _ (by omega) (by omega)).mono ?_; rintro e w' ⟨rfl, rfl⟩)
    have hL : Arr (w1.alloc (.cells #[Value.int .i64 (-1), .int .i64 (powI n)] 3)) w1.heap.size 3 [-1, powI n] := heap_alloc_new w1 _
    have hup : Upd (fun _ => False) w1 (w1.alloc (.cells #[Value.int .i64 (-1), .int .i64 (powI n)] 3)) := (Upd.refl _ _).alloc _
    obtain ⟨W4, hW4⟩ : ∃ W4, w1.alloc (.cells #[Value.int .i64 (-1), .int .i64 (powI n)] 3) = W4 := ⟨_, rfl⟩
    rw [hW4] at hL hup ⊢
    clear hW4
    have z4 := hup.size
    refine (one_any R (p + 1) _ 2 2 _ _ W4 (hR1.upd hup (fun _ e => e.elim)) (by omega) (hL.ints' (n := 2) hL.lt rfl) (fun b off e => by cases e; omega) (by omega) (by omega)).mono ?_
    rintro e w5 ⟨v, rfl, -, hR5, hU5⟩
    go_wp2
    go_ret
    exact ⟨v, 2, rfl, by omega, hR5, (hU1.trans (hup.mono fun _ _ e => e.elim)).trans hU5⟩
  · go_wp2_with fail
    have hL : Arr (w1.alloc (.cells #[Value.int .i64 2, .int .i64 3, .int .i64 2] 3)) w1.heap.size 3 [2, 3, 2] := heap_alloc_new w1 _
    have hup : Upd (fun _ => False) w1 (w1.alloc (.cells #[Value.int .i64 2, .int .i64 3, .int .i64 2] 3)) := (Upd.refl _ _).alloc _
    obtain ⟨W4, hW4⟩ : ∃ W4, w1.alloc (.cells #[Value.int .i64 2, .int .i64 3, .int .i64 2] 3) = W4 := ⟨_, rfl⟩
    rw [hW4] at hL hup ⊢
    clear hW4
    have z4 := hup.size
    refine (one_any R (p + 1) _ 3 3 _ _ W4 (hR1.upd hup (fun _ e => e.elim)) (by omega) (hL.ints' (n := 3) hL.lt rfl) (fun b off e => by cases e; omega) (by omega) (by omega)).mono ?_
    rintro e w5 ⟨v, rfl, -, hR5, hU5⟩
    have hU5' := (hU1.trans (hup.mono fun _ _ e => e.elim)).trans hU5
    clear hU1 hup hU5 hL hR1
    go_wp2_with fail
    go_loopw [5, 7] (fun s i wr => ∃ (k : Nat) (t : Int), k ≤ n ∧ i = .int .i64 k ∧ s = .int .i64 t ∧ 0 ≤ t ∧ t < powI k ∧ Rd wr R (p + 2 + k) ∧ Upd (fun k => k = R) w wr) (fun _ i _ => n - (intOf i).toNat)
    case atStart => exact ⟨0, 0, by omega, rfl, rfl, by omega, by decide, hR5, hU5'⟩
    case round =>
      obtain ⟨k, t, hk, rfl, rfl, ht0, ht1, hRr, hUr⟩ := hrel
      by_cases hlt : k < n
      · have hpk : powI (k : Int) < powI ((k + 1 : Nat) : Int) := powI_lt (by omega)
        have hp7 : powI ((k + 1 : Nat) : Int) ≤ 128 := powI_le (m := 7) (by omega)
        have hpp := powI_pos (k : Int)
        have hor : bits .or .i64 t (powI k) = orI t (powI k) := bits_or (by omega) (by omega) (by omega) (by omega)
        have hob := orI_bd (n := ((k + 1 : Nat) : Int)) ht0 (by omega) (Int.le_of_lt hpp) hpk
        go_wp2_with fail
        refine (pick_any R (p + 2 + k) v _ hRr (by omega)).mono ?_
        rintro e w6 ⟨y, rfl, -, hR6, hU6⟩
        have hUw6 := hUr.trans hU6
        clear hRr hUr hU6
        by_cases y0 : y = 0
        · subst y0
          have Hor := Lib.hid hor
          clear hor
          go_wp2_with (go_at_call 41; with_reducible refine (power_any (k : Int) _ (by omega) (by omega)).mono ?_; rintro e w' ⟨rfl, rfl⟩)
          go_roundw
          case rel => exact ⟨k + 1, orI t (powI k), by omega, by go_num, by rw [Hor.out], hob.1, hob.2, hR6, hUw6⟩
          case measure => simp [intOf]; omega
        · go_wp2
          go_roundw
          case rel => exact ⟨k + 1, t, by omega, by go_num, rfl, ht0, by omega, hR6, hUw6⟩
          case measure => simp [intOf]; omega
      · obtain rfl : k = n := by omega
        go_wp2
        go_ret
        exact ⟨t, 2 + k, rfl, by omega, by rw [← Nat.add_assoc]; exact hRr, hUr⟩
end Go.Proofs.Ytogiooecjfnkcaa
