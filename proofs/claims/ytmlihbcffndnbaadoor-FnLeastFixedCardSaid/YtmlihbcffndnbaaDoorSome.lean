/- A list that is drawn, an order most often. -/
import Derived.Test.YtmlihbcffndnbaaDoorGood
set_option linter.unusedVariables false
set_option linter.unusedSimpArgs false
namespace Go.Proofs.YtmlihbcffndnbaaDoor
open Go.RowKit Go.Shelf

set_option maxRecDepth 100000 in
set_option maxHeartbeats 4000000 in
theorem someOrder_any (R p : Nat) (w : World) (h : Rd w R p) (hp : p ≤ 700000) :
    Calls Tryd.prog 28 #[.pointer (some ⟨R, 0, none⟩), .int .i64 6] w fun e w' => ∃ A n c zs q, e = .returned (.slice A n c) ∧ n ≤ 7 ∧ Row w' w.heap.size w'.heap.size A n zs ∧ q ≤ 110 ∧ Rd w' R (p + q) ∧ Upd (fun k => k = R) w w' := by
  have hRl := h.lt
  go_enter Tryd.func28, Tryd.ntmps28
  go_wp2_with fail
  refine (goodOrder_any R p w h (by omega)).mono ?_
  rintro e w1 ⟨A, n, c, zs, q, rfl, hn6, r1, hq, hR1, hU1⟩
  have z1 := hU1.size
  by_cases hn : 0 < n
  · obtain ⟨b, ys, rfl, hb0, hb1, hAr⟩ := r1.2 hn
    have hlen := Lib.hid r1.len
    clear r1
    go_wp2_with fail
    refine (pick_any R (p + q) n w1 hR1 (by omega)).mono ?_
    rintro e w2 ⟨k, rfl, hk, hR2, hU2⟩
    obtain ⟨k0, k1⟩ := hk.1 (by omega)
    obtain ⟨k, rfl⟩ := Int.eq_ofNat_of_zero_le k0
    have hA2 := hAr.upd hU2 (by omega)
    have z2 := hU2.size
    have hUw2 := hU1.trans hU2
    clear hk hR1 hAr hU2
    go_wp2_with fail
    refine (pick_any R (p + q + 1) 40 w2 hR2 (by omega)).mono ?_
    rintro e w3 ⟨x, rfl, -, hR3, hU3⟩
    have hA3 := hA2.upd hU3 (by omega)
    have z3 := hU3.size
    have hUw3 := hUw2.trans hU3
    clear hR2 hA2 hU3 hUw2
    have hkl : k < (zs ++ ys).length := by rw [List.length_append, hlen.out]; omega
    have hck := hA3.cell hkl
    have hfk := hA3.frozen k
    have hset : ∀ v : Int, (zs ++ ys).set k v = zs.set k v ++ ys := fun v => List.set_append_left _ _ (by rw [hlen.out]; omega)
    have hpk : ∀ w, Calls Tryd.prog 56 #[.int .i64 (k : Int)] w fun e w' => e = .returned (.int .i64 (powI k)) ∧ w = w' := fun w => power_any _ _ (by omega) (by omega)
    have hpn : ∀ w, Calls Tryd.prog 56 #[.int .i64 (n : Int)] w fun e w' => e = .returned (.int .i64 (powI n)) ∧ w = w' := fun w => power_any _ _ (by omega) (by omega)
    by_cases x0 : x = 0
    · subst x0
      obtain ⟨z, hz⟩ : ∃ z, (zs ++ ys)[k]?.getD 0 = z := ⟨_, rfl⟩
      rw [hz] at hck
      have hRd : Rd w3.drew R (p + q + 1 + 1) := hR3
      have hcel : ∀ w4, Upd (fun k => k = R) w3.drew w4 → w4.cell? ⟨b, k, none⟩ = some (.int .i64 z) ∧ w4.frozen? ⟨b, k, none⟩ = false := fun w4 hU4 =>
        ⟨hU4.cell (p := ⟨b, k, none⟩) hck (by simp; omega), (hA3.drew.upd hU4 (by omega)).frozen k⟩
      have hfin : ∀ w4 xv, Upd (fun k => k = R) w3.drew w4 → Rd w4 R (p + q + 1 + 1 + 1) →
          Row (w4.setCell ⟨b, k, none⟩ (.int .i64 xv)) w.heap.size (w4.setCell ⟨b, k, none⟩ (.int .i64 xv)).heap.size (some ⟨b, 0, none⟩) n (zs.set k xv) ∧
          Rd (w4.setCell ⟨b, k, none⟩ (.int .i64 xv)) R (p + (q + 3)) ∧ Upd (fun k => k = R) w (w4.setCell ⟨b, k, none⟩ (.int .i64 xv)) := fun w4 xv hU4 hR4 => by
        have hA4 := hA3.drew.upd hU4 (by omega)
        have z4 : w3.heap.size ≤ w4.heap.size := hU4.size
        have hU4' := hUw3.drew.trans hU4
        have hA6 := hA4.set k xv
        rw [hset] at hA6
        have hU6 : Upd (fun i => w.heap.size ≤ i ∧ i = b) w4 (w4.setCell ⟨b, k, none⟩ (.int .i64 xv)) := (Upd.refl (fun i => w.heap.size ≤ i ∧ i = b) w4).setCell (p := ⟨b, k, none⟩) (.inr ⟨hb0, rfl⟩) _
        refine ⟨⟨by simpa using hlen.out, fun _ => ⟨b, ys, rfl, hb0, by simp [World.setCell]; omega, hA6⟩⟩, ?_, hU4'.trans' hU6 (fun i hi e => by omega)⟩
        rw [show p + (q + 3) = p + q + 1 + 1 + 1 by omega]; exact hR4.upd hU6 (fun i hi => by omega)
      have hpick : Calls Tryd.prog 55 #[.pointer (some ⟨R, 0, none⟩), .int .i64 (n : Int)] w3.drew fun e w' => ∃ v, e = .returned (.int .i64 v) ∧ 0 ≤ v ∧ v < n ∧ Rd w' R (p + q + 1 + 1 + 1) ∧ Upd (fun k => k = R) w3.drew w' := by
        refine (pick_any R (p + q + 1 + 1) n _ hRd (by omega)).mono ?_
        rintro e w4 ⟨v, rfl, hv, hR4, hU4⟩
        exact ⟨v, rfl, (hv.1 (by omega)).1, (hv.1 (by omega)).2, hR4, hU4⟩
      have hq : q + 3 ≤ 110 := by omega
      have hn7 : n ≤ 7 := by omega
      clear hpk hpn hRd hset hR3 hA3 hUw3 hz hlen hkl hRl h hp hU1 z1 hb0 hb1 z2 z3
      go_wp2
      go_region_with (first
        | (go_at_call 55; refine hpick.mono ?_; rintro e w4 ⟨v, rfl, hv0, hv1, hR4, hU4⟩; obtain ⟨hck4, hfk4⟩ := hcel w4 hU4)
        | (go_at_call 56; refine (power_any _ _ (by omega) (by omega)).mono ?_; rintro e w' ⟨rfl, rfl⟩))
      all_goals
        obtain ⟨hf1, hf2, hf3⟩ := hfin w4 (bits .xor .i64 z (powI v)) hU4 hR4
        clear hfin hcel hpick hck hfk hck4 hfk4 hR4 hU4
        obtain ⟨W5, hW5⟩ : ∃ W5, w4.setCell ⟨b, k, none⟩ (.int .i64 (bits .xor .i64 z (powI v))) = W5 := ⟨_, rfl⟩
        rw [hW5] at hf1 hf2 hf3 ⊢
        obtain ⟨xv, hxv⟩ : ∃ xv, bits .xor .i64 z (powI v) = xv := ⟨_, rfl⟩
        rw [hxv] at hf1 ⊢
        clear hW5 hxv
        go_wp2
        go_ret
        exact ⟨_, n, c, _, q + 3, rfl, hn7, hf1, hq, hf2, hf3⟩
    · by_cases x1 : x = 1
      · subst x1
        go_wp2_with (first
          | (go_at_call 56; with_reducible refine (hpn _).mono ?_; rintro e w' ⟨rfl, rfl⟩)
          | (go_at_call 56; with_reducible refine (hpk _).mono ?_; rintro e w' ⟨rfl, rfl⟩))
        have hL : Arr (w3.alloc (.cells #[Value.int .i64 (-1), .int .i64 (powI n), .int .i64 (powI k)] 3)) w3.heap.size 3 [-1, powI n, powI k] := heap_alloc_new w3 _
        have hup : Upd (fun _ => False) w3 (w3.alloc (.cells #[Value.int .i64 (-1), .int .i64 (powI n), .int .i64 (powI k)] 3)) := (Upd.refl _ _).alloc _
        obtain ⟨W4, hW4⟩ : ∃ W4, w3.alloc (.cells #[Value.int .i64 (-1), .int .i64 (powI n), .int .i64 (powI k)] 3) = W4 := ⟨_, rfl⟩
        rw [hW4] at hL hup ⊢
        clear hW4
        have z4 := hup.size
        refine (one_any R (p + q + 1 + 1) _ 3 3 _ _ W4 (hR3.upd hup (fun _ e => e.elim)) (by omega) (hL.ints' (n := 3) hL.lt rfl) (fun b off e => by cases e; omega) (by omega) (by omega)).mono ?_
        rintro e w5 ⟨v, rfl, -, hR5, hU5⟩
        have hA5 := (hA3.upd hup (fun e => e)).upd hU5 (by omega)
        have z5 := hU5.size
        have hck5 := hA5.cell hkl
        have hfk5 := hA5.frozen k
        have hU5' := (hUw3.trans (hup.mono fun _ _ e => e.elim)).trans hU5
        go_wp2
        go_ret
        have hA6 := hA5.set k v
        rw [hset] at hA6
        have hU6 : Upd (fun i => w.heap.size ≤ i ∧ i = b) w5 (w5.setCell ⟨b, k, none⟩ (.int .i64 v)) := (Upd.refl (fun i => w.heap.size ≤ i ∧ i = b) w5).setCell (p := ⟨b, k, none⟩) (.inr ⟨hb0, rfl⟩) _
        exact ⟨_, n, c, zs.set k v, q + 3, rfl, by omega, ⟨by simpa using hlen.out, fun _ => ⟨b, ys, rfl, hb0, by simp [World.setCell]; omega, hA6⟩⟩, by omega, hR5.upd hU6 (fun i hi => by omega), hU5'.trans' hU6 (fun i hi e => by omega)⟩
      · by_cases x2 : x = 2
        · subst x2
          have hmk := run_make_row' (P := Tryd.prog) 22 3 (.int .i64 0) 8 Tryd.underlying22 infoInt rfl .i64 .i64 7 (by omega) (by omega)
          simp only [Int.cast_ofNat_Int] at hmk
          go_wp2
          go_ret
          exact ⟨_, 7, 7, List.replicate 7 0, q + 2, rfl, by omega, Row.of (Arr.new w3 3 7) (by simp) (by omega) (by simp), by omega, hR3.upd ((Upd.refl (fun _ => False) w3).alloc _) (fun _ e => e.elim), hUw3.alloc _⟩
        · go_wp2
          go_ret
          exact ⟨_, n, c, zs, q + 2, rfl, by omega, ⟨hlen.out, fun _ => ⟨b, ys, rfl, hb0, by omega, hA3⟩⟩, by omega, hR3, hUw3⟩
  · obtain rfl : n = 0 := by omega
    go_wp2
    go_ret
    exact ⟨A, 0, c, zs, q, rfl, by omega, r1, by omega, hR1, hU1⟩
end Go.Proofs.YtmlihbcffndnbaaDoor
