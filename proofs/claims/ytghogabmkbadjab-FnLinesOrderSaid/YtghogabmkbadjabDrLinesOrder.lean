/- The arguments of LinesOrder, drawn: how many items, and some lists. -/
import Derived.Test.YtghogabmkbadjabALn
import Derived.Test.YtghogabmkbadjabRwX
import Derived.Test.YtghogabmkbadjabGb
set_option linter.unusedVariables false
set_option linter.unusedSimpArgs false
namespace Go.Proofs.Ytghogabmkbadjab
open Go.RowKit Go.Shelf

/-- A number and few rows that are drawn. -/
def DrawnL (w : World) (e : Ending) (w' : World) : Prop := ∃ (n : Int) (A : Option Addr) (m c : Nat) (rs : List (List Int)), e = .returned (.tuple #[.int .i64 n, .slice A m c]) ∧ m ≤ 3 ∧ m ≤ c ∧ IntsS w' w'.heap.size A m rs ∧ (∀ r ∈ rs, r.length ≤ 7) ∧ Below w.heap.size w w'

set_option maxRecDepth 100000 in
set_option maxHeartbeats 4000000 in
theorem drawLinesOrder_any (A : Option Addr) (m c : Nat) (bs : List Int) (w : World) (h : Byts w w.heap.size A m bs) (hcap : m ≤ c) (hbig : m ≤ 1152921504606846976) :
    Calls Try.prog 24 #[.slice A m c] w (DrawnL w) := by
  obtain ⟨i0, hi0, hz0, hz1, hz2⟩ := infoRow_parts
  go_enter Try.func24, Try.ntmps24
  go_wp2_with fail
  refine (newReader_rd h hcap hbig).mono ?_
  rintro e w0 ⟨rfl, hR0, hB0, hz⟩
  generalize hRR : w.heap.size = R at *
  have hRl := hR0.lt
  go_wp2_with fail
  have hL : Arr (w0.alloc (.cells #[Value.int .i64 4, .int .i64 5, .int .i64 3, .int .i64 6, .int .i64 2, .int .i64 1, .int .i64 0] 3)) w0.heap.size 3 [4, 5, 3, 6, 2, 1, 0] := heap_alloc_new w0 _
  have hUl : Upd (fun _ => False) w0 (w0.alloc (.cells #[Value.int .i64 4, .int .i64 5, .int .i64 3, .int .i64 6, .int .i64 2, .int .i64 1, .int .i64 0] 3)) := (Upd.refl _ _).alloc _
  obtain ⟨W1, hW1⟩ : ∃ W1, w0.alloc (.cells #[Value.int .i64 4, .int .i64 5, .int .i64 3, .int .i64 6, .int .i64 2, .int .i64 1, .int .i64 0] 3) = W1 := ⟨_, rfl⟩
  rw [hW1] at hL hUl ⊢
  clear hW1
  refine (one_any R 0 _ 7 7 _ _ W1 (hR0.upd hUl (fun _ e => e.elim)) (by omega) (hL.ints' (n := 7) hL.lt rfl) (fun b off e => by cases e; omega) (by omega) (by omega)).mono ?_
  rintro e w2 ⟨v0, rfl, hv0, hR2, hU2⟩
  have hv9 : 0 ≤ v0 ∧ v0 ≤ 6 := by simp at hv0; omega
  obtain ⟨N, rfl⟩ := Int.eq_ofNat_of_zero_le hv9.1
  have hu2 : Upd (fun k => k = R) w0 w2 := (hUl.mono fun _ _ e => e.elim).trans hU2
  clear hv0 hL hUl hU2
  have z02 := hu2.size
  go_wp2_with fail
  have R1 := RwX.new w2
  have hua : Upd (fun _ => False) w2 ((w2.alloc (.cells #[] 22)).alloc (.cells #[Value.int .i64 2, .int .i64 3, .int .i64 1, .int .i64 2, .int .i64 0] 3)) := ((Upd.refl _ _).alloc _).alloc _
  have R2 := R1.keep ((Upd.refl (fun _ => False) (w2.alloc (.cells #[] 22))).alloc (.cells #[Value.int .i64 2, .int .i64 3, .int .i64 1, .int .i64 2, .int .i64 0] 3)) (fun _ e => e.elim)
  have hL : Arr ((w2.alloc (.cells #[] 22)).alloc (.cells #[Value.int .i64 2, .int .i64 3, .int .i64 1, .int .i64 2, .int .i64 0] 3)) (w2.heap.size + 1) 3 [2, 3, 1, 2, 0] := by
    have := heap_alloc_new (w2.alloc (.cells #[] 22)) (.cells #[Value.int .i64 2, .int .i64 3, .int .i64 1, .int .i64 2, .int .i64 0] 3)
    rw [World.size_alloc] at this
    exact this
  have hRa := hR2.upd hua (fun _ e => e.elim)
  have hza : ((w2.alloc (.cells #[] 22)).alloc (.cells #[Value.int .i64 2, .int .i64 3, .int .i64 1, .int .i64 2, .int .i64 0] 3)).heap.size = w2.heap.size + 2 := by simp
  obtain ⟨Wa, hWa⟩ : ∃ Wa, (w2.alloc (.cells #[] 22)).alloc (.cells #[Value.int .i64 2, .int .i64 3, .int .i64 1, .int .i64 2, .int .i64 0] 3) = Wa := ⟨_, rfl⟩
  rw [hWa] at R2 hua hL hRa hza ⊢
  clear hWa R1
  refine (one_any R _ _ 5 5 _ _ Wa hRa (by omega) (hL.ints' (n := 5) hL.lt rfl) (fun b off e => by cases e; omega) (by omega) (by omega)).mono ?_
  rintro e w3 ⟨v1, rfl, hv1, hR3, hU3⟩
  have hv8 : 0 ≤ v1 ∧ v1 ≤ 3 := by simp at hv1; omega
  obtain ⟨K, rfl⟩ := Int.eq_ofNat_of_zero_le hv8.1
  have R3 := R2.keep hU3 (fun j e => by omega)
  have hu3 : Upd (fun k => k = R) w0 w3 := (hu2.trans (hua.mono fun _ _ e => e.elim)).trans hU3
  have z23 : w2.heap.size ≤ w3.heap.size := by have := hU3.size; omega
  clear hv1 hL R2 hU3 hRa hua hu2 hR2 hR0 hza
  have hRz : R < w2.heap.size := by omega
  have hmk := run_make_row' (P := Try.prog) 22 3 (.int .i64 0) 8 Try.underlying22 infoInt rfl .i64 .i64 N (by omega) (by omega)
  go_wp2_with fail
  go_loopw [6, 7] (fun v i wr => ∃ (k p' : Nat) (rs : List (List Int)), k ≤ 3 ∧ i = .int .i64 k ∧ rs.length + k ≤ 3 ∧ (∀ r ∈ rs, r.length ≤ 7) ∧ p' ≤ 2 + 30 * (3 - k) ∧ RwX wr w2.heap.size v rs ∧ Rd wr R p' ∧ Upd (fun k => k = R) w0 wr) (fun _ i _ => (intOf i).toNat)
  case atStart => exact ⟨K, _, [], by omega, rfl, by simp; omega, (fun r hr => by simp at hr), by omega, R3, hR3, hu3⟩
  case round =>
    clear R3 hR3 hu3 z23
    obtain ⟨k, p', rs, hk, rfl, hlen, hall, hp', hRo, hRd, hU⟩ := hrel
    rename World => wr
    have zU := hU.size
    have zB := hRo.1
    by_cases hlt : 0 < k
    · go_wp2_with fail
      have hAm := Arr.new wr 3 N
      have hUm : Upd (fun _ => False) wr (wr.alloc (.cells (madeCells #[.int .i64 0] N) 3)) := (Upd.refl _ _).alloc _
      have hzm : (wr.alloc (.cells (madeCells #[.int .i64 0] N) 3)).heap.size = wr.heap.size + 1 := by simp
      obtain ⟨wm, hwm⟩ : ∃ wm, wr.alloc (.cells (madeCells #[.int .i64 0] N) 3) = wm := ⟨_, rfl⟩
      rw [hwm] at hAm hUm hzm ⊢
      clear hwm
      have hIm : Row wm wr.heap.size wm.heap.size (some ⟨wr.heap.size, 0, none⟩) N (List.replicate N 0) := Row.of hAm (by simp) (Nat.le_refl _) (by omega)
      refine (aLineR_any R p' _ N _ _ wm (hRd.upd hUm (fun _ e => e.elim)) (by omega) wr.heap.size wm.heap.size hIm (by omega) (Nat.le_refl _) (by omega)).mono ?_
      rintro e w4 ⟨A4, n4, c4, ls, rfl, hn4, r4, hU4, q4, hq4, hRd4⟩
      have z4 := hU4.size
      have hUr4 : Upd (fun k => k = R) wr w4 := (hUm.mono fun _ _ e => e.elim).trans hU4
      have hRo4 := hRo.keep hUr4 (fun j e => by omega)
      have hvo : ∀ j, Value.ownBlock _ = some j → w2.heap.size ≤ j ∧ j < wr.heap.size := hRo.own
      have hUw := hU.trans hUr4
      obtain ⟨h04, vs, hown, hC⟩ := hRo4
      have Hall := Lib.hid hall
      have hl4 := r4.len
      clear hall hRo hU hU4 hUm hRd hIm hAm hUr4
      go_wp2_with (at_builtin; refine wpList_append1 _ rfl (.tmp 21) (.tmp 26) _ rfl w2.heap.size 22 i0 _ 24 Try.underlying32 hi0 hz0 hz1 hz2 rfl _ rs.length _ rfl (hown.alloc _) w4.heap.size 1 (.slice A4 n4 c4) rfl (cell_new _ _ _) rfl (by omega) (by omega) (by simp; omega) ?_; rintro v' w'' hown' hg' hv')
      go_roundw
      case rel => exact ⟨k - 1, p' + q4, rs ++ [ls], by omega, by go_num, by simp; omega, (fun r hr => by
        rcases List.mem_append.1 hr with hr | hr
        · exact Hall.out r hr
        · rw [List.mem_singleton.1 hr]; omega), by omega, RwX.step h04 hown hC r4.told (by omega) (fun j hj => by have := hvo j hj; omega) hown' hg' hv', hRd4.upd (((Upd.refl (fun k => w2.heap.size ≤ k) w4).alloc _).grown hg' (fun j hj => .inr (hvo j hj).1)) (fun j hj => by omega), hUw.trans' (((Upd.refl (fun k => w2.heap.size ≤ k) w4).alloc _).grown hg' (fun j hj => .inr (hvo j hj).1)) (fun i hi e => by omega)⟩
      case measure => simp [intOf]; omega
    · obtain rfl : k = 0 := by omega
      have hB1 : Below R w _ := hB0.trans (hU.toBelow (B := R) (fun k e => by omega) (by omega))
      obtain ⟨A1, c1, rfl, hI1, -⟩ := hRo.ints
      clear hU
      go_wp2_with fail
      refine (pick_any R p' 24 _ hRd (by omega)).mono ?_
      rintro e w5 ⟨x, rfl, hx, hR5, hU5⟩
      have z5 := hU5.size
      have hRo5 := hRo.keep hU5 (fun j e => by omega)
      have hB5 := hB1.trans (hU5.toBelow (B := R) (fun k e => by omega) (by omega))
      clear hB1 hU5 hRd hRo hI1
      have h5R := hR5.lt
      by_cases hx0 : x = 0
      · subst hx0
        have hw1 : wrap64 ((N : Int) + 1) = (N : Int) + 1 := IntWalk.wrap64_in _ ⟨by omega, by omega⟩
        go_wp2_with fail
        have hL : Arr (w5.alloc (.cells #[Value.int .i64 ((N : Int) + 1), .int .i64 7, .int .i64 (-1)] 3)) w5.heap.size 3 [(N : Int) + 1, 7, -1] := heap_alloc_new w5 _
        have hUl : Upd (fun _ => False) w5 (w5.alloc (.cells #[Value.int .i64 ((N : Int) + 1), .int .i64 7, .int .i64 (-1)] 3)) := (Upd.refl _ _).alloc _
        obtain ⟨W6, hW6⟩ : ∃ W6, w5.alloc (.cells #[Value.int .i64 ((N : Int) + 1), .int .i64 7, .int .i64 (-1)] 3) = W6 := ⟨_, rfl⟩
        rw [hW6] at hL hUl ⊢
        clear hW6
        refine (one_any R _ _ 3 3 _ _ W6 (hR5.upd hUl (fun _ e => e.elim)) (by omega) (hL.ints' (n := 3) hL.lt rfl) (fun b off e => by cases e; omega) (by omega) (by omega)).mono ?_
        rintro e w7 ⟨vn, rfl, -, -, hU7⟩
        have z6 := hUl.size
        have z7 := hU7.size
        have hRo7 := (hRo5.keep hUl (fun _ e => e.elim)).keep hU7 (fun j e => by omega)
        obtain ⟨A7, c7, hv7, hI7, hc7⟩ := hRo7.ints
        cases hv7
        go_wp2
        go_ret2
        exact ⟨_, _, _, _, rs, rfl, by omega, hc7, hI7, hall, by rw [hRR]; exact hB5.trans (((hUl.mono (S := fun k => k = R) fun _ _ e => e.elim).trans hU7).toBelow (B := R) (fun k e => by omega) (by omega))⟩
      · have hxb : (x == 0) = false := by simpa using hx0
        clear hx
        obtain ⟨A7, c7, hv7, hI7, hc7⟩ := hRo5.ints
        cases hv7
        go_wp2
        go_ret2
        exact ⟨_, _, _, _, rs, rfl, by omega, hc7, hI7, hall, by rw [hRR]; exact hB5⟩
end Go.Proofs.Ytghogabmkbadjab
