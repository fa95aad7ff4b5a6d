/- LinesOf: the exact law's walk. -/
import Derived.Test.YtghogabmkbadjabGxi
import Derived.Test.YtghogabmkbadjabCopies
import Derived.Test.YtghogabmkbadjabHeldS
set_option linter.unusedVariables false
set_option linter.unusedSimpArgs false
namespace Go.Proofs.Ytghogabmkbadjab
open Go.RowKit Go.Shelf
attribute [local go_sem] Oper.semAt_some

set_option maxHeartbeats 2000000 in
theorem exactLinesOf_walk (A : Option Addr) (n c : Nat) (zs : List Int) (w : World) (h : Ints w w.heap.size A n zs) (hR : (linesOfR zs).length ≤ 1048576 ∧ (∀ r ∈ linesOfR zs, r.length ≤ 1048576) ∧ tot (linesOfR zs) ≤ 1048576) :
    Calls Try.prog 8 #[.slice A n c] w fun e w' => e = .returned (.bool true) ∧ Below w.heap.size w w' := by
  by_cases hs : n ≤ 1048576
  · have HR := Lib.hid hR
    clear hR
    go_enter Try.func8, Try.ntmps8
    go_wp2_with fail
    refine (toIntS_any A n c zs _ h hs).mono ?_
    rintro e w1 ⟨rfl, hA1, hB1⟩
    have z1 := hB1.size
    go_wp2_with fail
    refine (specLinesOfF_any _ _ _ zs _ (hA1.ints' hA1.lt h.len) (by omega)).mono ?_
    rintro e w2 ⟨A2, c2, rfl, r2, hB2⟩
    generalize hn2' : (linesOfR zs).length = n2 at r2 ⊢
    have z2 := hB2.size
    have C2 := hB1.trans (hB2.mono z1)
    have hn2 : n2 ≤ 1048576 := by rw [← r2.len]; exact HR.out.1
    go_wp2_with fail
    refine (toIntS_any A n c zs _ (h.to C2 (Nat.le_refl _) (by omega)) hs).mono ?_
    rintro e w3 ⟨rfl, hA3, hB3⟩
    have z3 := hB3.size
    have C3 := C2.trans (hB3.mono (by omega))
    have r3 := r2.below hB3
    have l3 := hA3.lt
    have x3 : Row w3 w2.heap.size w3.heap.size (some ⟨w2.heap.size, 0, none⟩) n zs := Row.of hA3 h.len (Nat.le_refl _) l3
    clear hA3 hA1
    go_wp2_with fail
    refine (LinesOf_T _ _ _ zs _ (x3.ints (Nat.le_refl _)) (by omega)).mono ?_
    rintro e w4 ⟨A4, n4, c4, rfl, g4, hB4⟩
    have z4 := hB4.size
    have C4 := C3.trans (hB4.mono (by omega))
    have r4 := r3.below (hB4.mono (by omega))
    have x4 := x3.below hB4 (by omega)
    have hn4 : n4 ≤ 1048576 := by rw [← g4.len]; exact HR.out.1
    have hrr : decide (linesOfR zs = linesOfR zs) = true := by simp
    have hzz : decide (zs = zs) = true := by simp
    go_wp2_with fail
    refine (below_quiet (eqIntSS_any _ _ _ _ _ _ w4.heap.size w2.heap.size _ _ _ (g4.ints (Nat.le_refl _)) r4 (by omega) (by omega) HR.out.2.1 HR.out.2.1)).mono ?_
    rintro e w5 ⟨rfl, hB5⟩
    have z5 := hB5.size
    have C5 := C4.trans (hB5.mono (by omega))
    have r5 := r4.below (hB5.mono (by omega))
    have x5 := x4.below hB5 (by omega)
    have g5 := g4.below hB5 (by omega)
    go_wp2_with fail
    refine (toIntS_any A n c zs _ (h.to C5 (Nat.le_refl _) (by omega)) hs).mono ?_
    rintro e w6 ⟨rfl, hA6, hB6⟩
    have z6 := hB6.size
    have C6 := C5.trans (hB6.mono (by omega))
    have r6 := r5.below (hB6.mono (by omega))
    have x6 := x5.below hB6 (by omega)
    have g6 := g5.below hB6 (by omega)
    go_wp2_with fail
    refine (below_quiet (eqIntS_any _ _ _ _ _ _ w6.heap.size w6.heap.size _ _ _ (x6.ints (by omega)) (hA6.ints' hA6.lt h.len) (by omega) (by omega))).mono ?_
    rintro e w7 ⟨rfl, hB7⟩
    have z7 := hB7.size
    have C7 := C6.trans (hB7.mono (by omega))
    have r7 := r6.below (hB7.mono (by omega))
    have x7 := x6.below hB7 (by omega)
    have g7 := g6.below hB7 (by omega)
    clear hA6
    go_wp2_with fail
    refine (markIntS_row _ _ _ _ _ _ _ _ x7 hs (by omega) (by omega)).mono ?_
    rintro e w8 ⟨rfl, x8, hU8⟩
    have z8 := hU8.size
    have hw := h.len
    have C8 : Below w.heap.size w w8 := C7.trans (hU8.toBelow (fun j hj => by omega) (by omega))
    have r8 := r7.below (hU8.toBelow (B := w2.heap.size) (fun j hj => by omega) (by omega))
    have g8 := g7.upd hU8 (fun j hj => by omega)
    go_wp2_with fail
    refine (below_quiet (eqIntSS_any _ _ _ _ _ _ w8.heap.size w2.heap.size _ _ _ (g8.ints (by omega)) r8 (by omega) (by omega) HR.out.2.1 HR.out.2.1)).mono ?_
    rintro e w9 ⟨rfl, hB9⟩
    have z9 := hB9.size
    have C9 := C8.trans (hB9.mono (by omega))
    have r9 := r8.below (hB9.mono (by omega))
    have g9 := g8.below hB9 (by omega)
    clear x8 x7 x6 x5 x4 x3
    go_wp2_with fail
    refine (markLnT _ _ _ _ _ _ _ _ g9 hn4 HR.out.2.2 (by omega) (by omega)).mono ?_
    rintro e w10 ⟨rfl, g10, hU10⟩
    have z10 := hU10.size
    have C10 : Below w.heap.size w w10 := C9.trans (hU10.toBelow (fun j hj => by omega) (by omega))
    have r10 := r9.below (hU10.toBelow (B := w2.heap.size) (fun j hj => by omega) (by omega))
    have hne : (1 + (tot (linesOfR zs) : Int) != 1 + (tot (linesOfR zs) : Int)) = false := by simp
    have htt := HR.out.2.2
    go_wp2_with fail
    refine (heldIntSS_any _ _ _ w10.heap.size _ _ _ (g10.ints (by omega)) hn4 HR.out.2.2 (by omega) (by omega)).mono ?_
    rintro e w11 ⟨rfl, rfl⟩
    go_wp2_with fail
    refine (toIntS_any A n c zs _ (h.to C10 (Nat.le_refl _) (by omega)) hs).mono ?_
    rintro e w12 ⟨rfl, hA12, hB12⟩
    have z12 := hB12.size
    have C12 := C10.trans (hB12.mono (by omega))
    have r12 := r10.below (hB12.mono (by omega))
    have g12 := g10.below hB12 (by omega)
    go_wp2_with fail
    refine (LinesOf_T _ _ _ zs _ (hA12.ints' hA12.lt h.len) (by omega)).mono ?_
    rintro e w13 ⟨A13, n13, c13, rfl, h13, hB13⟩
    have z13 := hB13.size
    have C13 := C12.trans (hB13.mono (by omega))
    have r13 := r12.below (hB13.mono (by omega))
    have g13 := g12.below hB13 (by omega)
    have hn13 : n13 ≤ 1048576 := by rw [← h13.len]; exact HR.out.1
    go_wp2_with fail
    refine (below_quiet (eqIntSS_any _ _ _ _ _ _ w13.heap.size w2.heap.size _ _ _ (h13.ints (Nat.le_refl _)) r13 (by omega) (by omega) HR.out.2.1 HR.out.2.1)).mono ?_
    rintro e w14 ⟨rfl, hB14⟩
    have z14 := hB14.size
    have C14 := C13.trans (hB14.mono (by omega))
    have g14 := g13.below hB14 (by omega)
    go_wp2_with fail
    refine (heldIntSS_any _ _ _ w14.heap.size _ _ _ (g14.ints (by omega)) hn4 HR.out.2.2 (by omega) (by omega)).mono ?_
    rintro e w15 ⟨rfl, rfl⟩
    go_wp2_with fail
    go_ret
    exact ⟨rfl, C14⟩
  · go_enter Try.func8, Try.ntmps8
    go_wp2
    go_ret
    exact ⟨rfl, Below.refl _ _⟩

theorem exactLinesOf_all (A : Option Addr) (n c : Nat) (zs : List Int) (w : World) (h : Ints w w.heap.size A n zs) :
    Calls Try.prog 8 #[.slice A n c] w fun e w' => e = .returned (.bool true) ∧ Below w.heap.size w w' := exactLinesOf_walk A n c zs w h (linesOfR_bd zs)
end Go.Proofs.Ytghogabmkbadjab
