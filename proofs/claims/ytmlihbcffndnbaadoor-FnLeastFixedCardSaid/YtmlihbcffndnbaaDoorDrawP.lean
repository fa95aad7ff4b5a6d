/- Pairs that are drawn. -/
import Derived.Test.YtmlihbcffndnbaaDoorRdr
import Derived.Test.YtmlihbcffndnbaaDoorGxb
set_option linter.unusedVariables false
set_option linter.unusedSimpArgs false
namespace Go.Proofs.YtmlihbcffndnbaaDoor
open Go.RowKit Go.Shelf

theorem draw_own_lt {w : World} {B : Nat} {v : Value} {rs : List (List Int)} (h : Rowed w B v rs) : ∀ k, v.ownBlock = some k → k < w.heap.size := fun k hk => by
  obtain ⟨vs, h1, _⟩ := h
  obtain ⟨cs, hcs⟩ := own_block h1 k hk
  exact (Array.getElem?_eq_some_iff.1 hcs).1
theorem draw_cell_new2 (w : World) (o : Obj) (e : TypeId) (u : Value) : ((w.alloc o).alloc (.cells #[u] e)).cell? ⟨w.heap.size + 1, 0, none⟩ = some u := by
  have h := cell_new (w.alloc o) e u
  rwa [World.size_alloc] at h

set_option maxRecDepth 100000 in
set_option maxHeartbeats 4000000 in
theorem somePairs_any (R p : Nat) (n : Int) (w : World) (h : Rd w R p) (hp : p ≤ 900000) :
    Calls Tryd.prog 81 #[.pointer (some ⟨R, 0, none⟩), .int .i64 n] w fun e w' => ∃ v rs q, e = .returned v ∧ Rowed w' w.heap.size v rs ∧ (rs.length ≤ 9 ∧ ∀ r ∈ rs, r.length = 2) ∧ q ≤ 19 ∧ Rd w' R (p + q) ∧ Upd (fun k => k = R) w w' := by
  obtain ⟨i0, hi0, hz0, hz1, hz2⟩ := infoRow_parts
  have hRl := h.lt
  go_enter Tryd.func81, Tryd.ntmps81
  go_wp2_with fail
  have R1 := Rowed.new w
  have R2 := R1.keep ((Upd.refl (fun _ => False) (w.alloc (.cells #[] 22))).alloc (.cells #[Value.int .i64 3, .int .i64 4, .int .i64 2, .int .i64 5, .int .i64 1, .int .i64 7, .int .i64 0, .int .i64 9] 3)) (fun _ e => e.elim)
  have hu1 : Upd (fun k => k = R) w ((w.alloc (.cells #[] 22)).alloc (.cells #[Value.int .i64 3, .int .i64 4, .int .i64 2, .int .i64 5, .int .i64 1, .int .i64 7, .int .i64 0, .int .i64 9] 3)) := ((Upd.refl _ _).alloc _).alloc _
  have hL : Arr ((w.alloc (.cells #[] 22)).alloc (.cells #[Value.int .i64 3, .int .i64 4, .int .i64 2, .int .i64 5, .int .i64 1, .int .i64 7, .int .i64 0, .int .i64 9] 3)) (w.heap.size + 1) 3 [3, 4, 2, 5, 1, 7, 0, 9] := by
    have := heap_alloc_new (w.alloc (.cells #[] 22)) (.cells #[Value.int .i64 3, .int .i64 4, .int .i64 2, .int .i64 5, .int .i64 1, .int .i64 7, .int .i64 0, .int .i64 9] 3)
    rw [World.size_alloc] at this
    exact this
  have hR1 := h.upd (((Upd.refl (fun _ => False) w).alloc (.cells #[] 22)).alloc (.cells #[Value.int .i64 3, .int .i64 4, .int .i64 2, .int .i64 5, .int .i64 1, .int .i64 7, .int .i64 0, .int .i64 9] 3)) (fun _ e => e.elim)
  obtain ⟨W1, hW1⟩ : ∃ W1, (w.alloc (.cells #[] 22)).alloc (.cells #[Value.int .i64 3, .int .i64 4, .int .i64 2, .int .i64 5, .int .i64 1, .int .i64 7, .int .i64 0, .int .i64 9] 3) = W1 := ⟨_, rfl⟩
  rw [hW1] at R2 hu1 hL hR1 ⊢
  clear hW1 R1
  refine (one_any R p _ 8 8 _ _ W1 hR1 (by omega) (hL.ints' (n := 8) hL.lt rfl) (fun b off e => by cases e; omega) (by omega) (by omega)).mono ?_
  rintro e w2 ⟨v0, rfl, hv0, hR2, hU2⟩
  have hv9 : 0 ≤ v0 ∧ v0 ≤ 9 := by simp at hv0; omega
  obtain ⟨K, rfl⟩ := Int.eq_ofNat_of_zero_le hv9.1
  have R3 := R2.keep hU2 (fun j e => by omega)
  have hu2 := hu1.trans hU2
  clear hv0 hL R2 hU2 hR1 hu1
  go_wp2
  go_loopw [5, 6] (fun v i wr => ∃ (k p' : Nat) (rs : List (List Int)), k ≤ 9 ∧ i = .int .i64 k ∧ rs.length + k ≤ 9 ∧ (∀ r ∈ rs, r.length = 2) ∧ p ≤ p' ∧ p' + 2 * k ≤ p + 19 ∧ Rowed wr w.heap.size v rs ∧ Rd wr R p' ∧ Upd (fun k => k = R) w wr) (fun _ i _ => (intOf i).toNat)
  case atStart => exact ⟨K, p + 1, [], by omega, rfl, by simp; omega, (fun r hr => by simp at hr), by omega, by omega, R3, hR2, hu2⟩
  case round =>
    clear R3 hR2 hu2
    obtain ⟨k, p', rs, hk, rfl, hlen, hall, hpp, hp', hRo, hRd, hU⟩ := hrel
    have zU := hU.size
    by_cases hlt : 0 < k
    · go_wp2_with fail
      refine (pick_any R p' n _ hRd (by omega)).mono ?_
      rintro e w3 ⟨a, rfl, ha, hRd3, hU3⟩
      go_wp2_with fail
      refine (pick_any R (p' + 1) n _ hRd3 (by omega)).mono ?_
      rintro e w4 ⟨b, rfl, hb, hRd4, hU4⟩
      have hU34 := hU3.trans hU4
      have hRo4 := hRo.keep hU34 (fun j e => by omega)
      have hUw := hU.trans hU34
      obtain ⟨vs, hown, hC, hb1⟩ := hRo4
      have Hall := Lib.hid hall
      clear hall hRo hU hU3 hU4 hU34 hRd hRd3
      by_cases hab : b < a
      · go_wp2_with (at_builtin; go_loud (refine wpList_append1 _ rfl (.tmp 31) (.tmp 35) _ rfl w.heap.size 22 i0 _ 24 Tryd.underlying36 hi0 hz0 hz1 hz2 rfl _ rs.length _ rfl ((hown.alloc _).alloc _) (w4.heap.size + 1) 1 (.slice (some ⟨w4.heap.size, 0, none⟩) 2 2) rfl (draw_cell_new2 _ _ _ _) rfl (by omega) (by omega) (by simp; omega) ?_); rintro v' w' hown' hg' -)
        go_roundw
        case rel => exact ⟨k - 1, p' + 1 + 1, rs ++ [[b, a]], by omega, by go_num, by simp; omega, (fun r hr => by
          rcases List.mem_append.1 hr with hr | hr
          · exact Hall.out r hr
          · rw [List.mem_singleton.1 hr]; rfl), by omega, by omega, Rowed.step hown rfl hC hb1 hown' hg', hRd4.upd ((((Upd.refl (fun k => w.heap.size ≤ k) w4).alloc _).alloc _).grown hg' (fun k hk => .inr (own_base hown k hk))) (fun k hk => by omega), hUw.trans' ((((Upd.refl (fun k => w.heap.size ≤ k) w4).alloc _).alloc _).grown hg' (fun k hk => .inr (own_base hown k hk))) (fun i hi e => by omega)⟩
        case measure => simp [intOf]; omega
      · by_cases hab2 : a < b
        · go_wp2_with (at_builtin; go_loud (refine wpList_append1 _ rfl (.tmp 31) (.tmp 35) _ rfl w.heap.size 22 i0 _ 24 Tryd.underlying36 hi0 hz0 hz1 hz2 rfl _ rs.length _ rfl ((hown.alloc _).alloc _) (w4.heap.size + 1) 1 (.slice (some ⟨w4.heap.size, 0, none⟩) 2 2) rfl (draw_cell_new2 _ _ _ _) rfl (by omega) (by omega) (by simp; omega) ?_); rintro v' w' hown' hg' -)
          go_roundw
          case rel => exact ⟨k - 1, p' + 1 + 1, rs ++ [[a, b]], by omega, by go_num, by simp; omega, (fun r hr => by
            rcases List.mem_append.1 hr with hr | hr
            · exact Hall.out r hr
            · rw [List.mem_singleton.1 hr]; rfl), by omega, by omega, Rowed.step hown rfl hC hb1 hown' hg', hRd4.upd ((((Upd.refl (fun k => w.heap.size ≤ k) w4).alloc _).alloc _).grown hg' (fun k hk => .inr (own_base hown k hk))) (fun k hk => by omega), hUw.trans' ((((Upd.refl (fun k => w.heap.size ≤ k) w4).alloc _).alloc _).grown hg' (fun k hk => .inr (own_base hown k hk))) (fun i hi e => by omega)⟩
          case measure => simp [intOf]; omega
        · go_wp2
          go_roundw
          case rel => exact ⟨k - 1, p' + 1 + 1, rs, by omega, by go_num, by omega, Hall.out, by omega, by omega, ⟨vs, hown, hC, hb1⟩, hRd4, hUw⟩
          case measure => simp [intOf]; omega
    · obtain rfl : k = 0 := by omega
      go_wp2
      go_ret
      exact ⟨_, rs, p' - p, rfl, hRo, ⟨by omega, hall⟩, by omega, by rw [show p + (p' - p) = p' by omega]; exact hRd, hU⟩
end Go.Proofs.YtmlihbcffndnbaaDoor
