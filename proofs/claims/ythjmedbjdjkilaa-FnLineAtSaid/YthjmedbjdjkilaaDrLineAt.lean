/- The arguments of LineAt, drawn. -/
import Derived.Test.YthjmedbjdjkilaaGc
import Derived.Test.YthjmedbjdjkilaaGb
namespace Go.Proofs.Ythjmedbjdjkilaa
open Go.RowKit Go.Shelf

set_option maxRecDepth 100000 in
set_option maxHeartbeats 4000000 in
theorem drawLineAt_any (A : Option Addr) (m c : Nat) (bs : List Int) (w : World) (h : Byts w w.heap.size A m bs) (hcap : m ≤ c) (hbig : m ≤ 1152921504606846976) :
    Calls Try.prog 28 #[.slice A m c] w fun e w' => ∃ A n c zs s, e = .returned (.tuple #[.slice A n c, .int .i64 s]) ∧ n ≤ 7 ∧ Ints w' w'.heap.size A n zs ∧ Below w.heap.size w w' := by
  go_enter Try.func28, Try.ntmps28
  go_wp2_with fail
  refine (newReader_rd h hcap hbig).mono ?_
  rintro e w0 ⟨rfl, hR, hB, hz⟩
  go_wp2_with fail
  refine (someOrder_any _ 0 w0 hR (by omega)).mono ?_
  rintro e w1 ⟨A', n, c', zs, q, rfl, hn, r, hq, hR1, hU⟩
  have zU := hU.size
  have hB1 := hB.trans (hU.toBelow (fun k e => by omega) (by omega))
  clear hR hB hU
  have hlen := Lib.hid r.len
  cases hv : vo zs
  all_goals
    go_wp2_with fail
    refine (validOrder_any _ _ _ _ zs _ (r.ints (Nat.le_refl _)) (by omega)).mono ?_
    rw [hv]
    rintro e w' ⟨rfl, q1, rfl⟩
    have hR2 : Rd (w1.drewN q1) w.heap.size (0 + q) := hR1
    have hB2 := below_drewN hB1 q1
    have r2 : Row (w1.drewN q1) w0.heap.size w1.heap.size A' n zs := r
    have z2 : (w1.drewN q1).heap.size = w1.heap.size := rfl
    obtain ⟨W2, hW2⟩ : ∃ W2, w1.drewN q1 = W2 := ⟨_, rfl⟩
    rw [hW2] at hR2 hB2 r2 z2 ⊢
    clear hW2
  · have hNN : True := trivial
    go_wp2_with fail
    refine (pick_any _ _ 1 W2 hR2 (by omega)).mono ?_
    rintro e w3 ⟨y3, rfl, -, hR3, hU3⟩
    go_wp2_with fail
    refine (pick_any _ _ 1 w3 hR3 (by omega)).mono ?_
    rintro e w4 ⟨y4, rfl, -, hR4, hU4⟩
    go_wp2_with fail
    refine (pick_any _ _ 1 w4 hR4 (by omega)).mono ?_
    rintro e w5 ⟨y5, rfl, -, hR5, hU5⟩
    have hUU := (hU3.trans hU4).trans hU5
    have zUU := hUU.size
    have r5 := r2.upd hUU (fun j e => by omega)
    have hB5 := hB2.trans (hUU.toBelow (fun k e => by omega) (by omega))
    have hRl := hR5.lt
    go_wp2_with fail
    have hL : Arr (w5.alloc (.cells #[Value.int .i64 y3, .int .i64 y4, .int .i64 0, .int .i64 (0), .int .i64 y5, .int .i64 1, .int .i64 (-1)] 3)) w5.heap.size 3 [y3, y4, 0, 0, y5, 1, -1] := heap_alloc_new w5 _
    have hUl : Upd (fun _ => False) w5 (w5.alloc (.cells #[Value.int .i64 y3, .int .i64 y4, .int .i64 0, .int .i64 (0), .int .i64 y5, .int .i64 1, .int .i64 (-1)] 3)) := (Upd.refl _ _).alloc _
    obtain ⟨W6, hW6⟩ : ∃ W6, w5.alloc (.cells #[Value.int .i64 y3, .int .i64 y4, .int .i64 0, .int .i64 (0), .int .i64 y5, .int .i64 1, .int .i64 (-1)] 3) = W6 := ⟨_, rfl⟩
    rw [hW6] at hL hUl ⊢
    clear hW6
    refine (one_any _ _ _ 7 7 _ _ W6 (hR5.upd hUl (fun _ e => e.elim)) (by omega) (hL.ints' (n := 7) hL.lt rfl) (fun b off e => by cases e; omega) (by omega) (by omega)).mono ?_
    rintro e w7 ⟨v, rfl, -, -, hU7⟩
    have r7 := (r5.upd hUl (fun _ e => e.elim)).upd hU7 (fun j e => by omega)
    have z6 := hUl.size
    have z7 := hU7.size
    have hB7 := hB5.trans (((hUl.mono (S := fun k => k = w.heap.size) (fun _ _ e => e.elim)).trans' hU7 (fun i hi e => e)).toBelow (R := fun k => k = w.heap.size) (fun k e => by omega) (by omega))
    go_wp2_with fail
    go_ret2
    exact ⟨A', n, c', zs, v, rfl, hn, r7.ints (by omega), hB7⟩
  · have hvo : VoP zs := by simpa [vo] using hv
    have hn6 : n ≤ 6 := by have := hvo.1; rw [hlen.out] at this; exact this
    have hgb := cF_le hvo (s := 2 ^ n - 1) (by rw [hlen.out]; have := Nat.two_pow_pos n; omega)
    have hgc := count_both hvo
    rw [hlen.out] at hgc
    rw [← hgc] at hgb
    clear hv hgc
    go_wp2_with fail
    refine (scountLines_any A' n c' zs hvo _ (r2.ints (by omega))).mono ?_
    rintro e w8 ⟨rfl, hB8⟩
    generalize cG zs (2 ^ n - 1) = N at *
    have z8 := hB8.size
    have hR8 := hR2.below hB8 hR2.lt
    have r8 := r2.below hB8 (by omega)
    have hB9 := hB2.trans (hB8.mono hB2.size)
    clear hR2 r2 hB2 hB8
    go_wp2_with fail
    refine (pick_any _ _ (N : Int) w8 hR8 (by omega)).mono ?_
    rintro e w3 ⟨y3, rfl, -, hR3, hU3⟩
    go_wp2_with fail
    refine (pick_any _ _ (N : Int) w3 hR3 (by omega)).mono ?_
    rintro e w4 ⟨y4, rfl, -, hR4, hU4⟩
    go_wp2_with fail
    refine (pick_any _ _ (N : Int) w4 hR4 (by omega)).mono ?_
    rintro e w5 ⟨y5, rfl, -, hR5, hU5⟩
    have hUU := (hU3.trans hU4).trans hU5
    have zUU := hUU.size
    have r5 := r8.upd hUU (fun j e => by omega)
    have hB5 := hB9.trans (hUU.toBelow (fun k e => by omega) (by omega))
    have hRl := hR5.lt
    go_wp2_with fail
    have hL : Arr (w5.alloc (.cells #[Value.int .i64 y3, .int .i64 y4, .int .i64 0, .int .i64 ((N : Int) - 1), .int .i64 y5, .int .i64 (N : Int), .int .i64 (-1)] 3)) w5.heap.size 3 [y3, y4, 0, (N : Int) - 1, y5, (N : Int), -1] := heap_alloc_new w5 _
    have hUl : Upd (fun _ => False) w5 (w5.alloc (.cells #[Value.int .i64 y3, .int .i64 y4, .int .i64 0, .int .i64 ((N : Int) - 1), .int .i64 y5, .int .i64 (N : Int), .int .i64 (-1)] 3)) := (Upd.refl _ _).alloc _
    obtain ⟨W6, hW6⟩ : ∃ W6, w5.alloc (.cells #[Value.int .i64 y3, .int .i64 y4, .int .i64 0, .int .i64 ((N : Int) - 1), .int .i64 y5, .int .i64 (N : Int), .int .i64 (-1)] 3) = W6 := ⟨_, rfl⟩
    rw [hW6] at hL hUl ⊢
    clear hW6
    refine (one_any _ _ _ 7 7 _ _ W6 (hR5.upd hUl (fun _ e => e.elim)) (by omega) (hL.ints' (n := 7) hL.lt rfl) (fun b off e => by cases e; omega) (by omega) (by omega)).mono ?_
    rintro e w7 ⟨v, rfl, -, -, hU7⟩
    have r7 := (r5.upd hUl (fun _ e => e.elim)).upd hU7 (fun j e => by omega)
    have z6 := hUl.size
    have z7 := hU7.size
    have hB7 := hB5.trans (((hUl.mono (S := fun k => k = w.heap.size) (fun _ _ e => e.elim)).trans' hU7 (fun i hi e => e)).toBelow (R := fun k => k = w.heap.size) (fun k e => by omega) (by omega))
    go_wp2_with fail
    go_ret2
    exact ⟨A', n, c', zs, v, rfl, hn, r7.ints (by omega), hB7⟩
end Go.Proofs.Ythjmedbjdjkilaa
