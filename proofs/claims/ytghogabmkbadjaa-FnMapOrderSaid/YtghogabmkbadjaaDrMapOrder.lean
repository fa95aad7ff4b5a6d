/- The arguments of MapOrder, drawn: an order, and it under new numbers, or another one. -/
import Derived.Test.YtghogabmkbadjaaDrawS
import Derived.Test.YtghogabmkbadjaaGxa
import Derived.Test.YtghogabmkbadjaaANum
import Derived.Test.YtghogabmkbadjaaGxb
import Derived.Test.YtghogabmkbadjaaRnS
set_option linter.unusedVariables false
set_option linter.unusedSimpArgs false
namespace Go.Proofs.Ytghogabmkbadjaa
open Go.RowKit Go.Shelf

/-- Two lists that are drawn read as numbers, few of them. -/
def DrawnP (w : World) (e : Ending) (w' : World) : Prop := ∃ A n c zs A' n' c' ys, e = .returned (.tuple #[.slice A n c, .slice A' n' c']) ∧ n ≤ 7 ∧ n' ≤ 7 ∧ Ints w' w'.heap.size A n zs ∧ Ints w' w'.heap.size A' n' ys ∧ Below w.heap.size w w'
set_option maxRecDepth 100000 in
set_option maxHeartbeats 4000000 in
theorem drawMapOrder_any (A : Option Addr) (m c : Nat) (bs : List Int) (w : World) (h : Byts w w.heap.size A m bs) (hcap : m ≤ c) (hbig : m ≤ 1152921504606846976) :
    Calls Try.prog 33 #[.slice A m c] w (DrawnP w) := by
  go_enter Try.func33, Try.ntmps33
  go_wp2_with fail
  refine (newReader_rd h hcap hbig).mono ?_
  rintro e w0 ⟨rfl, hR, hB, hz⟩
  obtain ⟨R, hRe⟩ : ∃ R, w.heap.size = R := ⟨_, rfl⟩
  rw [hRe] at hR hz hB ⊢
  have hRl := hR.lt
  go_wp2_with fail
  refine (someOrderM_any R _ 5 (by omega) w0 hR (by omega)).mono ?_
  rintro e w1 ⟨A1, n, c1, zs, q1, rfl, hn7, r1, hq1, hR1, hU1⟩
  have z1 := hU1.size
  have B1 := hB.trans (hU1.toBelow (fun k e => by omega) (by omega))
  have hlen := Lib.hid r1.len
  clear hR hU1 hB
  go_wp2_with fail
  refine (validOrder_any _ _ _ _ zs _ (r1.ints (Nat.le_refl _)) (by omega)).mono ?_
  cases hv : vo zs
  · rintro e w' ⟨rfl, m1, rfl⟩
    have hR2 : Rd (w1.drewN m1) R (0 + q1) := hR1
    have r2 : Row (w1.drewN m1) w0.heap.size w1.heap.size A1 n zs := r1
    have B2 := below_drewN B1 m1
    have zz : (w1.drewN m1).heap.size = w1.heap.size := rfl
    generalize w1.drewN m1 = w2 at *
    go_wp2_with fail
    refine (someOrderM_any R _ 5 (by omega) w2 hR2 (by omega)).mono ?_
    rintro e wz ⟨A6, n6, c6, ys, q6, rfl, hn66, r66, -, -, hU66⟩
    have z66 := hU66.size
    have r77 := r2.upd hU66 (fun j e => by omega)
    go_wp2
    go_ret2
    exact ⟨A1, _, c1, zs, A6, n6, c6, ys, rfl, hn7, hn66, r77.ints (by omega), r66.ints (Nat.le_refl _), by rw [hRe]; exact B2.trans (hU66.toBelow (fun k e => by omega) (by omega))⟩
  · rintro e w' ⟨rfl, m1, rfl⟩
    have hvo : VoP zs := by simpa [vo] using hv
    have hn6 : n ≤ 6 := by have := hvo.1; rw [hlen.out] at this; exact this
    have hR2 : Rd (w1.drewN m1) R (0 + q1) := hR1
    have r2 : Row (w1.drewN m1) w0.heap.size w1.heap.size A1 n zs := r1
    have B2 := below_drewN B1 m1
    have zz : (w1.drewN m1).heap.size = w1.heap.size := rfl
    generalize w1.drewN m1 = w2 at *
    clear hR1 r1 B1 hv
    have hR2l := hR2.lt
    go_wp2_with fail
    refine (pick_any R _ 3 w2 hR2 (by omega)).mono ?_
    rintro e w3 ⟨y, rfl, -, hR3, hU3⟩
    have z3 := hU3.size
    have r3 := r2.upd hU3 (fun j e => by omega)
    have B3 := B2.trans (hU3.toBelow (fun k e => by omega) (by omega))
    clear hU3 r2 B2 hR2
    by_cases hy : y > 0
    · have hyd : decide (y > 0) = true := decide_eq_true hy
      go_wp2_with fail
      refine (aNum_any R _ n w3 hR3 (by omega) hn7).mono ?_
      rintro e w4 ⟨A4, n4, c4, ts, q4, rfl, rfl, r4, hq4, hR4, hU4⟩
      have z4 := hU4.size
      have r3' := r3.upd hU4 (fun j e => by omega)
      have B4 := B3.trans (hU4.toBelow (fun k e => by omega) (by omega))
      clear hU4 r3 B3 hR3
      have hmk := run_make_row' (P := Try.prog) 22 3 (.int .i64 0) 8 Try.underlying22 infoInt rfl .i64 .i64 n4 (by omega) (by omega)
      go_wp2_with fail
      have hAm := Arr.new w4 3 n4
      have hU5 : Upd (fun _ => False) w4 (w4.alloc (.cells (madeCells #[.int .i64 0] n4) 3)) := (Upd.refl _ _).alloc _
      have hz5 : (w4.alloc (.cells (madeCells #[.int .i64 0] n4) 3)).heap.size = w4.heap.size + 1 := by simp
      obtain ⟨w5, hw5⟩ : ∃ w5, w4.alloc (.cells (madeCells #[.int .i64 0] n4) 3) = w5 := ⟨_, rfl⟩
      rw [hw5] at hAm hU5 hz5 ⊢
      clear hw5
      have r5 := r3'.upd hU5 (fun _ e => e.elim)
      have t5 := r4.upd hU5 (fun _ e => e.elim)
      have hR5 := hR4.upd hU5 (fun _ e => e.elim)
      have B5 := B4.trans (hU5.toBelow (fun _ e => e.elim) (by omega))
      have hI0 : Ints w5 w5.heap.size (some ⟨w4.heap.size, 0, none⟩) n4 (zr n4) := hAm.ints' (by omega) (by simp)
      refine (sisLine_any _ n4 _ (zr n4) A4 n4 c4 ts (zr_vo hn6) w5 hI0 (t5.ints (by omega)) (by omega)).mono ?_
      rintro e w6 ⟨rfl, hB6⟩
      have z6 := hB6.size
      have r6 := r5.upd (Below.toUpd hB6) (fun j e => by omega)
      have t6 := t5.upd (Below.toUpd hB6) (fun j e => by omega)
      have hR5l := hR5.lt
      have hR6 := hR5.upd (Below.toUpd hB6) (fun j e => by omega)
      have B6 := B5.trans (hB6.mono (by omega))
      clear hU5 hAm hI0 r3' r4 r5 t5 hR4 hR5 B4 B5 hB6
      cases hl : lineB (zr n4) ts
      · go_wp2_with fail
        refine (someOrderM_any R _ 5 (by omega) w6 hR6 (by omega)).mono ?_
        rintro e wz ⟨A6, n6, c6, ys, q6, rfl, hn66, r66, -, -, hU66⟩
        have z66 := hU66.size
        have r77 := r6.upd hU66 (fun j e => by omega)
        go_wp2
        go_ret2
        exact ⟨A1, _, c1, zs, A6, n6, c6, ys, rfl, hn7, hn66, r77.ints (by omega), r66.ints (Nat.le_refl _), by rw [hRe]; exact B6.trans (hU66.toBelow (fun k e => by omega) (by omega))⟩
      · go_wp2_with fail
        refine (rnS_any A1 A4 n4 c1 c4 zs ts w6 (r6.ints (by omega)) (t6.ints (by omega)) hvo.sets hl).mono ?_
        rintro e w7 ⟨rfl, hA7, hB7⟩
        have z7 := hB7.size
        have hlt7 := hA7.lt
        go_wp2
        go_ret2
        exact ⟨A1, n4, c1, zs, _, n4, n4, rnL zs ts, rfl, hn7, hn7, (r6.ints (B := w6.heap.size) (by omega)).to hB7 (Nat.le_refl _) z7, hA7.ints' hlt7 (by rw [rnL_len, hlen.out]), by rw [hRe]; exact B6.trans (hB7.mono (by omega))⟩
    · have hyd : decide (y > 0) = false := decide_eq_false hy
      go_wp2_with fail
      refine (someOrderM_any R _ 5 (by omega) w3 hR3 (by omega)).mono ?_
      rintro e wz ⟨A6, n6, c6, ys, q6, rfl, hn66, r66, -, -, hU66⟩
      have z66 := hU66.size
      have r77 := r3.upd hU66 (fun j e => by omega)
      go_wp2
      go_ret2
      exact ⟨A1, _, c1, zs, A6, n6, c6, ys, rfl, hn7, hn66, r77.ints (by omega), r66.ints (Nat.le_refl _), by rw [hRe]; exact B3.trans (hU66.toBelow (fun k e => by omega) (by omega))⟩
end Go.Proofs.Ytghogabmkbadjaa
