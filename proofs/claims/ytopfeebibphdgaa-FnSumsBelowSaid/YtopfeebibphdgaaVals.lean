/- A list of values that is drawn. -/
import Derived.Test.YtopfeebibphdgaaDrawS
import Derived.Test.YtopfeebibphdgaaOwnS
import Derived.Test.YtopfeebibphdgaaRowV
namespace Go.Proofs.Ytopfeebibphdgaa
open Go.RowKit Go.Shelf

set_option maxRecDepth 100000 in
set_option maxHeartbeats 8000000 in
theorem someValues_any (R p n : Nat) (w : World) (h : Rd w R p) (hp : p ≤ 900000) (hn : n ≤ 7) :
    Calls Try.prog 68 #[.pointer (some ⟨R, 0, none⟩), .int .i64 (n : Int)] w fun e w' => ∃ A' n' c' ls, e = .returned (.slice A' n' c') ∧ n' ≤ 8 ∧ RowV w' w.heap.size w'.heap.size A' n' ls ∧ Upd (fun k => k = R) w w' := by
  obtain ⟨i0, hi0, hz0, hz1, hz2⟩ := info_parts infoInt
  have hRl := h.lt
  go_enter Try.func68, Try.ntmps68
  go_wp2_with fail
  have h1 := own_new w 3
  have hU1 : Upd (fun _ => False) w (w.alloc (.cells #[] 3)) := (Upd.refl _ w).alloc _
  have hR1 := h.upd hU1 (fun _ e => e.elim)
  have hz1' : (w.alloc (.cells #[] 3)).heap.size = w.heap.size + 1 := by simp
  obtain ⟨W1, hW1⟩ : ∃ W1, w.alloc (.cells #[] 3) = W1 := ⟨_, rfl⟩
  rw [hW1] at h1 hU1 hR1 hz1' ⊢
  clear hW1
  go_loopw [5, 6] (fun v i wr => ∃ (k : Nat) (xs : List Int), k ≤ n ∧ xs.length = k ∧ i = .int .i64 k ∧ OwnS (fun j => w.heap.size ≤ j) wr w.heap.size 3 v xs ∧ Rd wr R (p + k) ∧ Upd (fun k => k = R) w wr) (fun _ i _ => n - (intOf i).toNat)
  case atStart => exact ⟨0, [], by omega, rfl, rfl, ⟨fun k hk => by simp [Value.ownBlock] at hk; omega, h1⟩, hR1, hU1.mono fun _ _ e => e.elim⟩
  case round =>
    obtain ⟨k, xs, hk, hxs, rfl, hO, hRd, hU⟩ := hrel
    have zU := hU.size
    by_cases hlt : k < n
    · go_wp2_with fail
      have hL : Arr (wr.alloc (.cells #[Value.int .i64 1, .int .i64 2, .int .i64 0, .int .i64 (-3), .int .i64 7, .int .i64 100, .int .i64 (-1000), .int .i64 1000] 3)) wr.heap.size 3 [1, 2, 0, -3, 7, 100, -1000, 1000] := heap_alloc_new wr _
      have hup : Upd (fun _ => False) wr (wr.alloc (.cells #[Value.int .i64 1, .int .i64 2, .int .i64 0, .int .i64 (-3), .int .i64 7, .int .i64 100, .int .i64 (-1000), .int .i64 1000] 3)) := (Upd.refl _ wr).alloc _
      have hR2 := hRd.upd hup (fun _ e => e.elim)
      obtain ⟨W2, hW2⟩ : ∃ W2, wr.alloc (.cells #[Value.int .i64 1, .int .i64 2, .int .i64 0, .int .i64 (-3), .int .i64 7, .int .i64 100, .int .i64 (-1000), .int .i64 1000] 3) = W2 := ⟨_, rfl⟩
      rw [hW2] at hL hup hR2 ⊢
      clear hW2
      have z2 := hup.size
      refine (one_any R (p + k) _ 8 8 _ _ W2 hR2 (by omega) (hL.ints' (n := 8) hL.lt rfl) (fun b off e => by cases e; omega) (by omega) (by omega)).mono ?_
      rintro e w3 ⟨v0, rfl, -, hR3, hU3⟩
      have hUw : Upd (fun k => k = R) w w3 := (hU.trans' hup (fun i hi e => e.elim)).trans hU3
      have hO3 := (hO.keep hup (fun k hk e => e)).keep hU3 (fun k hk e => by omega)
      have z3 := hUw.size
      clear hO hL hup hR2 hU3 hRd hU
      go_wp2_with (at_builtin; refine wpList_append1 _ rfl (.tmp 13) (.tmp 17) _ rfl w.heap.size 3 i0 _ 8 Try.underlying22 hi0 hz0 hz1 hz2 rfl _ xs.length _ rfl (hO3.2.alloc _) w3.heap.size 1 (.int .i64 v0) rfl (cell_new _ _ _) rfl (by omega) (by omega) (by simp; omega) ?_; rintro v' w' hown' hg' hv')
      have zg := hg'.size
      simp at zg
      go_roundw
      case rel => exact ⟨k + 1, xs ++ [v0], by omega, by simp [hxs], by go_num, hO3.step hown' hv' (fun k e => e) (fun _ => by omega), by
        have := hR3.upd (((Upd.refl (fun k => w.heap.size ≤ k) w3).alloc (.cells #[Value.int .i64 v0] 3)).grown hg' (fun k hk => .inr (hO3.1 k hk))) (fun k hk => by omega)
        rwa [Nat.add_assoc] at this, hUw.trans' (((Upd.refl (fun k => w.heap.size ≤ k) w3).alloc (.cells #[Value.int .i64 v0] 3)).grown hg' (fun k hk => .inr (hO3.1 k hk))) (fun i hi e => by omega)⟩
      case measure => simp [intOf]; omega
    · obtain rfl : k = n := by omega
      go_wp2_with fail
      refine (pick_any R (p + k) 24 wr hRd (by omega)).mono ?_
      rintro e w3 ⟨y, rfl, hy, hR3, hU3⟩
      have hUw : Upd (fun k => k = R) w w3 := hU.trans hU3
      have hO3 := hO.keep hU3 (fun k hk e => by omega)
      have z3 := hUw.size
      clear hO hU3 hRd hU
      by_cases y0 : y = 0
      · subst y0
        go_wp2_with (at_builtin; refine wpList_append1 _ rfl (.tmp 23) (.tmp 24) _ rfl w.heap.size 3 i0 _ 8 Try.underlying22 hi0 hz0 hz1 hz2 rfl _ xs.length _ rfl (hO3.2.alloc _) w3.heap.size 1 (.int .i64 1) rfl (cell_new _ _ _) rfl (by omega) (by omega) (by simp; omega) ?_; rintro v' w' hown' hg' hv')
        have zg := hg'.size
        simp at zg
        have hO4 := hO3.step (S' := fun j => w.heap.size ≤ j) hown' hv' (fun k e => e) (fun _ => by omega)
        have hl4 : (xs ++ [1]).length = xs.length + 1 := by simp
        obtain ⟨A', c', rfl, hV⟩ := rowV_of_own hO4.2
        go_ret
        exact ⟨A', _, c', _, rfl, by rw [hl4]; omega, hV, hUw.trans' (((Upd.refl (fun k => w.heap.size ≤ k) w3).alloc (.cells #[Value.int .i64 1] 3)).grown hg' (fun k hk => .inr (hO3.1 k hk))) (fun i hi e => by omega)⟩
      · obtain ⟨A', c', rfl, hV⟩ := rowV_of_own hO3.2
        rw [hxs] at hV ⊢
        by_cases y1 : y = 1
        · subst y1
          by_cases hk0 : 0 < k
          · go_wp2_with fail
            have hL : Arr (w3.alloc (.cells #[Value.int .i64 1001, .int .i64 (-1001)] 3)) w3.heap.size 3 [1001, -1001] := heap_alloc_new w3 _
            have hup : Upd (fun _ => False) w3 (w3.alloc (.cells #[Value.int .i64 1001, .int .i64 (-1001)] 3)) := (Upd.refl _ w3).alloc _
            have hR4 := hR3.upd hup (fun _ e => e.elim)
            have hV4 := hV.upd hup (fun _ e => e.elim)
            obtain ⟨W4, hW4⟩ : ∃ W4, w3.alloc (.cells #[Value.int .i64 1001, .int .i64 (-1001)] 3) = W4 := ⟨_, rfl⟩
            rw [hW4] at hL hup hR4 hV4 ⊢
            clear hW4
            have z4 := hup.size
            refine (one_any R (p + k + 1) _ 2 2 _ _ W4 hR4 (by omega) (hL.ints' (n := 2) hL.lt rfl) (fun b off e => by cases e; omega) (by omega) (by omega)).mono ?_
            rintro e w5 ⟨v0, rfl, -, hR5, hU5⟩
            have hV5 := hV4.upd hU5 (fun k e => by omega)
            have z5 := hU5.size
            obtain ⟨b, rfl, hb1, hb2, hf, hcell⟩ := hV5.cell (by omega)
            have hc0 := hcell 0 (by omega)
            have hf0 := hf 0
            have hU5w := (hUw.trans' hup (fun i hi e => e.elim)).trans hU5
            clear hcell hf
            go_wp2
            go_ret
            exact ⟨_, _, c', _, rfl, by omega, (hV5.set0 rfl v0).more (Nat.le_refl _) (by first | omega | (simp [World.setCell]; omega)), hU5w.setCell (p := ⟨b, 0, none⟩) (.inl hb1) _⟩
          · obtain rfl : k = 0 := by omega
            go_wp2
            go_ret
            exact ⟨A', _, c', xs, rfl, by omega, hV, hUw⟩
        · go_wp2
          go_ret
          exact ⟨A', _, c', xs, rfl, by omega, hV, hUw⟩
end Go.Proofs.Ytopfeebibphdgaa
