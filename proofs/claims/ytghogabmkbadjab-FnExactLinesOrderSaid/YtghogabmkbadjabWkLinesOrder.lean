/- LinesOrder: the exact law's walk. -/
import Derived.Test.YtghogabmkbadjabGxp
import Derived.Test.YtghogabmkbadjabCopies
import Derived.Test.YtghogabmkbadjabGxd
import Derived.Test.YtghogabmkbadjabArgRows
set_option linter.unusedVariables false
set_option linter.unusedSimpArgs false
namespace Go.Proofs.Ytghogabmkbadjab
open Go.RowKit

theorem lnR_le (n : Int) (rs : List (List Int)) : (lnR n rs).length ≤ 1048576 := by
  unfold lnR
  split
  · rename_i h
    unfold lnOk at h
    rw [Bool.and_eq_true, inB_iff] at h
    rw [meL_len]
    omega
  · simp

set_option maxHeartbeats 4000000 in
theorem exactLinesOrder_walk (n : Int) (A : Option Addr) (m c : Nat) (rs : List (List Int)) (w : World) (h : IntsS w w.heap.size A m rs) (hm : m ≤ 9223372036854775807) (hr : ∀ r ∈ rs, r.length ≤ 9223372036854775807) :
    Calls Try.prog 12 #[.int .i64 n, .slice A m c] w fun e w' => e = .returned (.bool true) ∧ Below w.heap.size w w' := by
  go_enter Try.func12, Try.ntmps12
  go_wp2_with fail
  refine (szIntSS_any A m c _ rs w h hm hr).mono ?_
  rintro e w0 ⟨⟨z, rfl, (hz | ⟨hz, hm1, ht1⟩)⟩, rfl⟩
  · go_wp2
    go_ret
    exact ⟨rfl, Below.refl _ _⟩
  · have hr1 : ∀ r ∈ rs, r.length ≤ 1048576 := fun r h9 => Nat.le_trans (tot_mem h9) ht1
    have HR := Lib.hid (lnR_le n rs)
    have hbb : (lnOk n rs != lnOk n rs) = false := by simp
    have hrr : decide (lnR n rs = lnR n rs) = true := by simp
    have hzz : decide (rs = rs) = true := by simp
    clear hm hr
    go_wp2_with fail
    refine (toIntSS_any A m c rs _ h hm1 hr1).mono ?_
    rintro e w1 ⟨A1, rfl, x1, hB1⟩
    have z1 := hB1.size
    go_wp2_with fail
    refine (specLinesOrder_any n _ _ _ rs _ (x1.ints (Nat.le_refl _)) hm1 hr1).mono ?_
    rintro e w2 ⟨A2, n2, c2, rfl, r2, hB2⟩
    have z2 := hB2.size
    have C2 := hB1.trans (hB2.mono z1)
    have hn2 : n2 ≤ 1048576 := by rw [← r2.len]; exact HR.out
    clear x1
    generalize hok : lnOk n rs = ok at *
    have Hok := Lib.hid hok
    clear hok
    go_wp2_with fail
    refine (toIntSS_any A m c rs _ ((h.below C2).more (by omega)) hm1 hr1).mono ?_
    rintro e w3 ⟨A3, rfl, x3, hB3⟩
    have z3 := hB3.size
    have C3 := C2.trans (hB3.mono (by omega))
    have r3 := r2.below hB3 (Nat.le_refl _)
    go_wp2_with fail
    refine (LinesOrder_any n _ _ _ rs _ (x3.ints (Nat.le_refl _)) hm1 hr1).mono ?_
    rintro e w4 ⟨A4, n4, c4, rfl, g4, hB4⟩
    rw [Hok.out]
    have z4 := hB4.size
    have C4 := C3.trans (hB4.mono (by omega))
    have r4 := r3.below hB4 (by omega)
    have x4 := x3.below hB4 (by omega)
    have hn4 : n4 ≤ 1048576 := by rw [← g4.len]; exact HR.out
    go_wp2_with fail
    refine (below_quiet (eqIntS_any _ _ _ _ _ _ w4.heap.size w4.heap.size _ _ _ (g4.ints (Nat.le_refl _)) (r4.ints (by omega)) (by omega) (by omega))).mono ?_
    rintro e w5 ⟨rfl, hB5⟩
    have z5 := hB5.size
    have C5 := C4.trans (hB5.mono (by omega))
    have r5 := r4.below hB5 (by omega)
    have x5 := x4.below hB5 (by omega)
    have g5 := g4.below hB5 (by omega)
    go_wp2_with fail
    refine (toIntSS_any A m c rs _ ((h.below C5).more (by omega)) hm1 hr1).mono ?_
    rintro e w6 ⟨A6, rfl, y6, hB6⟩
    have z6 := hB6.size
    have C6 := C5.trans (hB6.mono (by omega))
    have r6 := r5.below hB6 (by omega)
    have x6 := x5.below hB6 (by omega)
    have g6 := g5.below hB6 (by omega)
    go_wp2_with fail
    refine (below_quiet (eqIntSS_any _ _ _ _ _ _ w6.heap.size w6.heap.size _ _ _ (x6.ints (by omega)) (y6.ints (by omega)) (by omega) (by omega) hr1 hr1)).mono ?_
    rintro e w7 ⟨rfl, hB7⟩
    have z7 := hB7.size
    have C7 := C6.trans (hB7.mono (by omega))
    have r7 := r6.below hB7 (by omega)
    have x7 := x6.below hB7 (by omega)
    have g7 := g6.below hB7 (by omega)
    clear y6
    go_wp2_with fail
    refine (markIntSS_rows _ _ _ _ _ _ _ _ x7 hm1 ht1 (by omega) (by omega)).mono ?_
    rintro e w8 ⟨rfl, x8, hU8⟩
    have z8 := hU8.size
    have C8 : Below w.heap.size w w8 := C7.trans (hU8.toBelow (fun j hj => by omega) (by omega))
    have r8 := r7.upd hU8 (fun j hj => by omega)
    have g8 := g7.upd hU8 (fun j hj => by omega)
    go_wp2_with fail
    refine (below_quiet (eqIntS_any _ _ _ _ _ _ w8.heap.size w8.heap.size _ _ _ (g8.ints (by omega)) (r8.ints (by omega)) (by omega) (by omega))).mono ?_
    rintro e w9 ⟨rfl, hB9⟩
    have z9 := hB9.size
    have C9 := C8.trans (hB9.mono (by omega))
    have r9 := r8.below hB9 (by omega)
    have g9 := g8.below hB9 (by omega)
    clear x8 x7 x6 x5 x4 x3
    go_wp2_with fail
    refine (markIntS_row _ _ _ _ _ _ _ _ g9 hn4 (by omega) (by omega)).mono ?_
    rintro e w10 ⟨rfl, g10, hU10⟩
    have z10 := hU10.size
    have C10 : Below w.heap.size w w10 := C9.trans (hU10.toBelow (fun j hj => by omega) (by omega))
    have r10 := r9.upd hU10 (fun j hj => by omega)
    have hne : (1 + (n4 : Int) != 1 + (n4 : Int)) = false := by simp
    go_wp2_with fail
    refine (heldIntS_any _ _ _ w10.heap.size _ _ (g10.ints (by omega)) hn4 (by omega) (by omega)).mono ?_
    rintro e w11 ⟨rfl, rfl⟩
    go_wp2_with fail
    refine (toIntSS_any A m c rs _ ((h.below C10).more (by omega)) hm1 hr1).mono ?_
    rintro e w12 ⟨A12, rfl, x12, hB12⟩
    have z12 := hB12.size
    have C12 := C10.trans (hB12.mono (by omega))
    have r12 := r10.below hB12 (by omega)
    have g12 := g10.below hB12 (by omega)
    go_wp2_with fail
    refine (LinesOrder_any n _ _ _ rs _ (x12.ints (Nat.le_refl _)) hm1 hr1).mono ?_
    rintro e w13 ⟨A13, n13, c13, rfl, h13, hB13⟩
    rw [Hok.out]
    have z13 := hB13.size
    have C13 := C12.trans (hB13.mono (by omega))
    have r13 := r12.below hB13 (by omega)
    have g13 := g12.below hB13 (by omega)
    have hn13 : n13 ≤ 1048576 := by rw [← h13.len]; exact HR.out
    go_wp2_with fail
    refine (below_quiet (eqIntS_any _ _ _ _ _ _ w13.heap.size w13.heap.size _ _ _ (h13.ints (Nat.le_refl _)) (r13.ints (by omega)) (by omega) (by omega))).mono ?_
    rintro e w14 ⟨rfl, hB14⟩
    have z14 := hB14.size
    have C14 := C13.trans (hB14.mono (by omega))
    have g14 := g13.below hB14 (by omega)
    go_wp2_with fail
    refine (heldIntS_any _ _ _ w14.heap.size _ _ (g14.ints (by omega)) hn4 (by omega) (by omega)).mono ?_
    rintro e w15 ⟨rfl, rfl⟩
    go_wp2_with fail
    go_ret
    exact ⟨rfl, C14⟩

theorem exactLinesOrder_all (n : Int) (A : Option Addr) (m c : Nat) (rs : List (List Int)) (w : World) (h : IntsS w w.heap.size A m rs) (hm : m ≤ maxLen) (hr : ∀ r ∈ rs, r.length ≤ maxLen) :
    Calls Try.prog 12 #[.int .i64 n, .slice A m c] w fun e w' => e = .returned (.bool true) ∧ Below w.heap.size w w' :=
  exactLinesOrder_walk n A m c rs w h (by simpa [maxLen] using hm) (fun r h9 => by simpa [maxLen] using hr r h9)
end Go.Proofs.Ytghogabmkbadjab
