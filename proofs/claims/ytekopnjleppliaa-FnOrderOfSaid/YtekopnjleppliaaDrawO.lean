/- The arguments of OrderOf, drawn. -/
import Derived.Test.YtekopnjleppliaaDrawP
namespace Go.Proofs.Ytekopnjleppliaa
open Go.RowKit Go.Shelf

theorem Rowed.step1 {w w' : World} {B n : Nat} {v v' : Value} {rs : List (List Int)} {vs : List Value} {a : Int} (h1 : w.ownsRow B 22 1 v n vs) (hn : n = rs.length) (h2 : RowsC w B w.heap.size vs rs) (hB : B ≤ w.heap.size)
    (hown : w'.ownsRow B 22 1 v' (n + 1) (vs ++ [.slice (some ⟨w.heap.size, 0, none⟩) 1 1]))
    (hg : ((w.alloc (.cells #[.int .i64 a] 3)).alloc (.cells #[.slice (some ⟨w.heap.size, 0, none⟩) 1 1] 22)).grownBy w' v.ownBlock) : Rowed w' B v' (rs ++ [[a]]) := by
  have hu : Upd (fun _ => False) w ((w.alloc (.cells #[.int .i64 a] 3)).alloc (.cells #[.slice (some ⟨w.heap.size, 0, none⟩) 1 1] 22)) := ((Upd.refl _ w).alloc _).alloc _
  have h3 := h2.upd hu (fun j e => e.elim)
  have hA : Arr (w.alloc (.cells #[.int .i64 a] 3)) w.heap.size 3 [a] := heap_alloc_new w _
  have h4 := h3.snoc (hi' := w.heap.size + 1 + 1) (r := [a]) (c := 1) (Row.of (hA.alloc _) rfl (Nat.le_refl _) (by omega)) (by omega)
  have h5 := h4.grown (by simp) hg (own_block (h1.alloc _ |>.alloc _))
  refine ⟨_, by rw [List.length_append, ← hn]; exact hown, h5.more (by have := hg.size; simpa using this), by have := hg.size; simp at this; omega⟩

/-- Rows that read: few, and short. -/
def Few (w : World) (v : Value) (rs : List (List Int)) : Prop := ∃ A c, v = .slice A rs.length c ∧ IntsS w w.heap.size A rs.length rs ∧ rs.length ≤ 1048576 ∧ ∀ r ∈ rs, r.length ≤ 1048576
theorem Rowed.few {w : World} {B : Nat} {v : Value} {rs : List (List Int)} (h : Rowed w B v rs) (hl : rs.length ≤ 1048576) (hr : ∀ r ∈ rs, r.length ≤ 2) : Few w v rs := by
  obtain ⟨A, c, rfl, hR⟩ := h.rows
  exact ⟨A, c, rfl, hR.ints (Nat.le_refl _), hl, fun r h => by have := hr r h; omega⟩

set_option maxRecDepth 100000 in
set_option maxHeartbeats 4000000 in
theorem drawOrderOf_any (A : Option Addr) (m c : Nat) (bs : List Int) (w : World) (h : Byts w w.heap.size A m bs) (hcap : m ≤ c) (hbig : m ≤ 1152921504606846976) :
    Calls Try.prog 35 #[.slice A m c] w fun e w' => ∃ n v rs, e = .returned (.tuple #[.int .i64 n, v]) ∧ Few w' v rs ∧ Below w.heap.size w w' := by
  obtain ⟨i0, hi0, hz0, hz1, hz2⟩ := infoRow_parts
  go_enter Try.func35, Try.ntmps35
  go_wp2_with fail
  refine (newReader_any A m c bs w h hcap hbig).mono ?_
  rintro e w0 ⟨rfl, hw0⟩
  have hR0 : Rd w0 w.heap.size 0 := by
    rw [hw0]
    exact ⟨A, min m 2000, c, bs.take (min m 2000), by omega, heap_alloc_new w _, (h.take (by omega)).below (((Below.refl w.heap.size w).alloc (Nat.le_refl _)) _)⟩
  have hB0 : Below w.heap.size w w0 := by rw [hw0]; exact (Below.refl w.heap.size w).alloc (Nat.le_refl _) _
  have hz : w.heap.size < w0.heap.size := by rw [hw0]; simp
  clear hw0
  generalize hRR : w.heap.size = R at *
  go_wp2_with fail
  have hL : Arr (w0.alloc (.cells #[Value.int .i64 4, .int .i64 5, .int .i64 6, .int .i64 3, .int .i64 2, .int .i64 1, .int .i64 0, .int .i64 7, .int .i64 (-1)] 3)) w0.heap.size 3 [4, 5, 6, 3, 2, 1, 0, 7, -1] := heap_alloc_new w0 _
  have hR1 := hR0.upd ((Upd.refl (fun _ => False) w0).alloc (.cells #[Value.int .i64 4, .int .i64 5, .int .i64 6, .int .i64 3, .int .i64 2, .int .i64 1, .int .i64 0, .int .i64 7, .int .i64 (-1)] 3)) (fun _ e => e.elim)
  have hB1 := hB0.alloc (by omega) (.cells #[Value.int .i64 4, .int .i64 5, .int .i64 6, .int .i64 3, .int .i64 2, .int .i64 1, .int .i64 0, .int .i64 7, .int .i64 (-1)] 3)
  obtain ⟨W1, hW1⟩ : ∃ W1, w0.alloc (.cells #[Value.int .i64 4, .int .i64 5, .int .i64 6, .int .i64 3, .int .i64 2, .int .i64 1, .int .i64 0, .int .i64 7, .int .i64 (-1)] 3) = W1 := ⟨_, rfl⟩
  rw [hW1] at hL hR1 hB1 ⊢
  clear hW1
  refine (one_any R 0 _ 9 9 _ _ W1 hR1 (by omega) (hL.ints' (n := 9) hL.lt rfl) (fun b off e => by cases e; omega) (by omega) (by omega)).mono ?_
  rintro e w2 ⟨n, rfl, hn, hR2, hU2⟩
  have hB2 := hB1.trans (hU2.toBelow (B := R) (fun k e => by omega) (by have := hR1.lt; omega))
  clear hL hU2 hR1 hB1 hR0 hB0
  go_wp2_with fail
  refine (somePairs_any R 1 n w2 hR2 (by omega)).mono ?_
  rintro e w3 ⟨v, rs, q, rfl, hRo, ⟨hl, hall⟩, hq, hR3, hU3⟩
  have hB3 := hB2.trans (hU3.toBelow (B := R) (fun k e => by omega) (by have := hR2.lt; omega))
  have z3 : w2.heap.size ≤ w3.heap.size := hU3.size
  have hlt2 := hR2.lt
  clear hU3 hR2 hB2
  go_wp2_with fail
  refine (pick_any R (1 + q) 12 w3 hR3 (by omega)).mono ?_
  rintro e w4 ⟨x, rfl, hx, hR4, hU4⟩
  have hB4 := hB3.trans (hU4.toBelow (B := R) (fun k e => by omega) (by omega))
  have hRo4 := hRo.keep hU4 (fun j e => by omega)
  have hx9 := hx.1 (by omega)
  have hall2 : ∀ r ∈ rs, r.length ≤ 2 := fun r hr => by rw [hall r hr]; omega
  clear hU4 hB3 hR3 hRo hx
  by_cases x0 : x = 0
  · subst x0
    go_wp2_with fail
    refine (pick_any R (1 + q + 1) n w4 hR4 (by omega)).mono ?_
    rintro e w5 ⟨a, rfl, -, hR5, hU5⟩
    have hB5 := hB4.trans (hU5.toBelow (B := R) (fun k e => by omega) (by have := hR4.lt; omega))
    have hRo5 := hRo4.keep hU5 (fun j e => by omega)
    have z5 := hU5.size
    go_wp2_with fail
    refine (pick_any R (1 + q + 1 + 1) n w5 hR5 (by omega)).mono ?_
    rintro e w6 ⟨b, rfl, -, hR6, hU6⟩
    have hB6 := hB5.trans (hU6.toBelow (B := R) (fun k e => by omega) (by have := hR5.lt; omega))
    have hRo6 := hRo5.keep hU6 (fun j e => by omega)
    obtain ⟨vs, hown, hC, hb1⟩ := hRo6
    go_wp2_with (at_builtin; go_loud (refine wpList_append1 _ rfl (.tmp 19) (.tmp 27) _ rfl w2.heap.size 22 i0 _ 24 Try.underlying30 hi0 hz0 hz1 hz2 rfl _ rs.length _ rfl ((hown.alloc _).alloc _) (w6.heap.size + 1) 1 (.slice (some ⟨w6.heap.size, 0, none⟩) 2 2) rfl (draw_cell_new2 _ _ _ _) rfl (by omega) (by omega) (by simp; omega) ?_); rintro v' w' hown' hg' -)
    go_ret2
    exact ⟨n, v', rs ++ [[a, b]], rfl, (Rowed.step hown rfl hC hb1 hown' hg').few (by simp; omega) (fun r hr => by
      rcases List.mem_append.1 hr with hr | hr
      · exact hall2 r hr
      · rw [List.mem_singleton.1 hr]; simp), by rw [hRR]; exact hB6.trans (((((Upd.refl (fun k => R ≤ k) w6).alloc _).alloc _).grown hg' (fun k hk => .inr (by have := own_base hown k hk; omega))).toBelow (fun k e => e) (by have := hR6.lt; omega))⟩
  · by_cases x1 : x = 1
    · subst x1
      obtain ⟨vs, hown, hC, hb1⟩ := hRo4
      go_wp2_with (at_builtin; go_loud (refine wpList_append1 _ rfl (.tmp 31) (.tmp 34) _ rfl w2.heap.size 22 i0 _ 24 Try.underlying30 hi0 hz0 hz1 hz2 rfl _ rs.length _ rfl ((hown.alloc _).alloc _) (w4.heap.size + 1) 1 (.slice (some ⟨w4.heap.size, 0, none⟩) 2 2) rfl (draw_cell_new2 _ _ _ _) rfl (by omega) (by omega) (by simp; omega) ?_); rintro v' w' hown' hg' -)
      go_ret2
      exact ⟨n, v', rs ++ [[n, 0]], rfl, (Rowed.step hown rfl hC hb1 hown' hg').few (by simp; omega) (fun r hr => by
        rcases List.mem_append.1 hr with hr | hr
        · exact hall2 r hr
        · rw [List.mem_singleton.1 hr]; simp), by rw [hRR]; exact hB4.trans (((((Upd.refl (fun k => R ≤ k) w4).alloc _).alloc _).grown hg' (fun k hk => .inr (by have := own_base hown k hk; omega))).toBelow (fun k e => e) (by have := hR4.lt; omega))⟩
    · by_cases x2 : x = 2
      · subst x2
        obtain ⟨vs, hown, hC, hb1⟩ := hRo4
        go_wp2_with (at_builtin; go_loud (refine wpList_append1 _ rfl (.tmp 38) (.tmp 40) _ rfl w2.heap.size 22 i0 _ 24 Try.underlying30 hi0 hz0 hz1 hz2 rfl _ rs.length _ rfl ((hown.alloc _).alloc _) (w4.heap.size + 1) 1 (.slice (some ⟨w4.heap.size, 0, none⟩) 1 1) rfl (draw_cell_new2 _ _ _ _) rfl (by omega) (by omega) (by simp; omega) ?_); rintro v' w' hown' hg' -)
        go_ret2
        exact ⟨n, v', rs ++ [[0]], rfl, (Rowed.step1 hown rfl hC hb1 hown' hg').few (by simp; omega) (fun r hr => by
          rcases List.mem_append.1 hr with hr | hr
          · exact hall2 r hr
          · rw [List.mem_singleton.1 hr]; simp), by rw [hRR]; exact hB4.trans (((((Upd.refl (fun k => R ≤ k) w4).alloc _).alloc _).grown hg' (fun k hk => .inr (by have := own_base hown k hk; omega))).toBelow (fun k e => e) (by have := hR4.lt; omega))⟩
      · go_wp2
        go_ret2
        exact ⟨n, v, rs, rfl, hRo4.few (by omega) hall2, by rw [hRR]; exact hB4⟩
end Go.Proofs.Ytekopnjleppliaa
