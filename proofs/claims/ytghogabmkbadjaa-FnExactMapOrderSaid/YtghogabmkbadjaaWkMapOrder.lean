/- The walk of the exact law of MapOrder. -/
import Derived.Test.YtghogabmkbadjaaRnY
import Derived.Test.YtghogabmkbadjaaGa
import Derived.Test.YtghogabmkbadjaaGb
set_option linter.unusedVariables false
set_option linter.unusedSimpArgs false
namespace Go.Proofs.Ytghogabmkbadjaa
open Go.RowKit

set_option maxHeartbeats 4000000 in
theorem exactMapOrder_walkR (A : Option Addr) (n c : Nat) (zs : List Int) (A' : Option Addr) (n' c' : Nat) (vs : List Int) (w : World) (h : Ints w w.heap.size A n zs) (h' : Ints w w.heap.size A' n' vs) (hR : (mapR zs vs).length ≤ 1048576) :
    Calls Try.prog 4 #[.slice A n c, .slice A' n' c'] w fun e w' => e = .returned (.bool true) ∧ Below w.heap.size w w' := by
  by_cases hs : n ≤ 1048576
  · by_cases hs' : n' ≤ 1048576
    · have HR := Lib.hid hR
      clear hR
      obtain ⟨tb, htb⟩ : ∃ tb, mapB zs vs = tb := ⟨_, rfl⟩
      have htn : (tb != tb) = false := by cases tb <;> rfl
      have Htb := Lib.hid htb
      clear htb
      have C0 : Below w.heap.size w w := Below.refl _ _
      have hw := h.len
      have hw' := h'.len
      go_enter Try.func4, Try.ntmps4
      go_wp2_with fail
      refine (toIntS_any A n c zs w (h.to C0 (Nat.le_refl _) C0.size) hs).mono ?_
      rintro e w1 ⟨rfl, hA1, hB1⟩
      have z1 := hB1.size
      have C1 := C0.trans (hB1.mono C0.size)
      have l1 := hA1.lt
      have a1 : Row w1 w.heap.size w1.heap.size (some ⟨w.heap.size, 0, none⟩) n zs := Row.of hA1 h.len (Nat.le_refl _) l1
      clear hA1
      go_wp2_with fail
      refine (toIntS_any A' n' c' vs w1 (h'.to C1 (Nat.le_refl _) C1.size) hs').mono ?_
      rintro e w2 ⟨rfl, hA2, hB2⟩
      have z2 := hB2.size
      have C2 := C1.trans (hB2.mono C1.size)
      have a2 := a1.below hB2 (by omega)
      have l2 := hA2.lt
      have b2 : Row w2 w1.heap.size w2.heap.size (some ⟨w1.heap.size, 0, none⟩) n' vs := Row.of hA2 h'.len (Nat.le_refl _) l2
      clear hA2
      go_wp2_with fail
      refine (specMapOrderF_any _ n _ zs _ n' _ vs w2 (a2.ints (by omega)) (b2.ints (by omega)) (by omega) (by omega)).mono ?_
      rw [Htb.out]
      rintro e w3 ⟨A3, n3, c3, rfl, r3, hB3⟩
      have z3 := hB3.size
      have C3 := C2.trans (hB3.mono C2.size)
      have a3 := a2.below hB3 (by omega)
      have b3 := b2.below hB3 (by omega)
      have hn3 : n3 ≤ 1048576 := by rw [← r3.len]; exact HR.out
      clear a3
      clear b3
      go_wp2_with fail
      refine (toIntS_any A n c zs w3 (h.to C3 (Nat.le_refl _) C3.size) hs).mono ?_
      rintro e w4 ⟨rfl, hA4, hB4⟩
      have z4 := hB4.size
      have C4 := C3.trans (hB4.mono C3.size)
      have r4 := r3.below hB4 (by omega)
      have l4 := hA4.lt
      have x4 : Row w4 w3.heap.size w4.heap.size (some ⟨w3.heap.size, 0, none⟩) n zs := Row.of hA4 h.len (Nat.le_refl _) l4
      clear hA4
      go_wp2_with fail
      refine (toIntS_any A' n' c' vs w4 (h'.to C4 (Nat.le_refl _) C4.size) hs').mono ?_
      rintro e w5 ⟨rfl, hA5, hB5⟩
      have z5 := hB5.size
      have C5 := C4.trans (hB5.mono C4.size)
      have r5 := r4.below hB5 (by omega)
      have x5 := x4.below hB5 (by omega)
      have l5 := hA5.lt
      have y5 : Row w5 w4.heap.size w5.heap.size (some ⟨w4.heap.size, 0, none⟩) n' vs := Row.of hA5 h'.len (Nat.le_refl _) l5
      clear hA5
      go_wp2_with fail
      refine (MapOrder_any _ n _ zs _ n' _ vs w5 (x5.ints (by omega)) (y5.ints (by omega)) (by omega) (by omega)).mono ?_
      rw [Htb.out]
      rintro e w6 ⟨A6, n6, c6, rfl, g6, hB6⟩
      have z6 := hB6.size
      have C6 := C5.trans (hB6.mono C5.size)
      have r6 := r5.below hB6 (by omega)
      have x6 := x5.below hB6 (by omega)
      have y6 := y5.below hB6 (by omega)
      have hn6 : n6 ≤ 1048576 := by rw [← g6.len]; exact HR.out
      have hrr : decide (mapR zs vs = mapR zs vs) = true := by simp
      have hzz : decide (zs = zs) = true := by simp
      have hvv : decide (vs = vs) = true := by simp
      go_wp2_with fail
      refine (below_quiet (eqIntS_any _ _ _ _ _ _ w6.heap.size w6.heap.size _ _ _ (g6.ints (by omega)) (r6.ints (by omega)) (by omega) (by omega))).mono ?_
      rintro e w7 ⟨rfl, hB7⟩
      have z7 := hB7.size
      have C7 := C6.trans (hB7.mono C6.size)
      have r7 := r6.below hB7 (by omega)
      have x7 := x6.below hB7 (by omega)
      have y7 := y6.below hB7 (by omega)
      have g7 := g6.below hB7 (by omega)
      go_wp2_with fail
      refine (toIntS_any A n c zs w7 (h.to C7 (Nat.le_refl _) C7.size) hs).mono ?_
      rintro e w8 ⟨rfl, hA8, hB8⟩
      have z8 := hB8.size
      have C8 := C7.trans (hB8.mono C7.size)
      have r8 := r7.below hB8 (by omega)
      have x8 := x7.below hB8 (by omega)
      have y8 := y7.below hB8 (by omega)
      have g8 := g7.below hB8 (by omega)
      have l8 := hA8.lt
      have a8 : Row w8 w7.heap.size w8.heap.size (some ⟨w7.heap.size, 0, none⟩) n zs := Row.of hA8 h.len (Nat.le_refl _) l8
      clear hA8
      go_wp2_with fail
      refine (below_quiet (eqIntS_any _ _ _ _ _ _ w8.heap.size w8.heap.size _ _ _ (x8.ints (by omega)) (a8.ints (by omega)) (by omega) (by omega))).mono ?_
      rintro e w9 ⟨rfl, hB9⟩
      have z9 := hB9.size
      have C9 := C8.trans (hB9.mono C8.size)
      have r9 := r8.below hB9 (by omega)
      have x9 := x8.below hB9 (by omega)
      have y9 := y8.below hB9 (by omega)
      have g9 := g8.below hB9 (by omega)
      have a9 := a8.below hB9 (by omega)
      clear a9
      go_wp2_with fail
      refine (toIntS_any A' n' c' vs w9 (h'.to C9 (Nat.le_refl _) C9.size) hs').mono ?_
      rintro e w10 ⟨rfl, hA10, hB10⟩
      have z10 := hB10.size
      have C10 := C9.trans (hB10.mono C9.size)
      have r10 := r9.below hB10 (by omega)
      have x10 := x9.below hB10 (by omega)
      have y10 := y9.below hB10 (by omega)
      have g10 := g9.below hB10 (by omega)
      have l10 := hA10.lt
      have b10 : Row w10 w9.heap.size w10.heap.size (some ⟨w9.heap.size, 0, none⟩) n' vs := Row.of hA10 h'.len (Nat.le_refl _) l10
      clear hA10
      go_wp2_with fail
      refine (below_quiet (eqIntS_any _ _ _ _ _ _ w10.heap.size w10.heap.size _ _ _ (y10.ints (by omega)) (b10.ints (by omega)) (by omega) (by omega))).mono ?_
      rintro e w11 ⟨rfl, hB11⟩
      have z11 := hB11.size
      have C11 := C10.trans (hB11.mono C10.size)
      have r11 := r10.below hB11 (by omega)
      have x11 := x10.below hB11 (by omega)
      have y11 := y10.below hB11 (by omega)
      have g11 := g10.below hB11 (by omega)
      have b11 := b10.below hB11 (by omega)
      clear b11
      go_wp2_with fail
      refine (markIntS_row _ _ _ _ _ _ _ _ x11 hs (by omega) (by omega)).mono ?_
      rintro e w12 ⟨rfl, x12, hU12⟩
      have z12 := hU12.size
      have C12 : Below w.heap.size w w12 := C11.trans (hU12.toBelow (fun j hj => by omega) (by omega))
      have r12 := r11.upd hU12 (fun j hj => by omega)
      have y12 := y11.upd hU12 (fun j hj => by omega)
      have g12 := g11.upd hU12 (fun j hj => by omega)
      go_wp2_with fail
      refine (markIntS_row _ _ _ _ _ _ _ _ y12 hs' (by omega) (by omega)).mono ?_
      rintro e w13 ⟨rfl, y13, hU13⟩
      have z13 := hU13.size
      have C13 : Below w.heap.size w w13 := C12.trans (hU13.toBelow (fun j hj => by omega) (by omega))
      have r13 := r12.upd hU13 (fun j hj => by omega)
      have x13 := x12.upd hU13 (fun j hj => by omega)
      have g13 := g12.upd hU13 (fun j hj => by omega)
      have hk : decide (1 + (n : Int) + (n' : Int) < 0) = false := decide_eq_false (by omega)
      go_wp2_with fail
      refine (below_quiet (eqIntS_any _ _ _ _ _ _ w13.heap.size w13.heap.size _ _ _ (g13.ints (by omega)) (r13.ints (by omega)) (by omega) (by omega))).mono ?_
      rintro e w14 ⟨rfl, hB14⟩
      have z14 := hB14.size
      have C14 := C13.trans (hB14.mono C13.size)
      have r14 := r13.below hB14 (by omega)
      have x14 := x13.below hB14 (by omega)
      have y14 := y13.below hB14 (by omega)
      have g14 := g13.below hB14 (by omega)
      clear x14
      clear y14
      go_wp2_with fail
      refine (markIntS_rowV _ _ _ _ _ _ _ _ g14 hn6 (by omega) (by omega)).mono ?_
      rintro e w15 ⟨rfl, g15, hU15⟩
      have z15 := hU15.size
      have C15 : Below w.heap.size w w15 := C14.trans (hU15.toBelow (fun j hj => by omega) (by omega))
      have r15 := r14.upd hU15 (fun j hj => by omega)
      have hne : (1 + (n6 : Int) != 1 + (n6 : Int)) = false := by simp
      go_wp2_with fail
      refine (heldIntS_any _ _ _ w15.heap.size _ _ (g15.ints (by omega)) hn6 (by omega) (by omega)).mono ?_
      rintro e wx ⟨rfl, rfl⟩
      go_wp2_with fail
      refine (toIntS_any A n c zs w15 (h.to C15 (Nat.le_refl _) C15.size) hs).mono ?_
      rintro e w16 ⟨rfl, hA16, hB16⟩
      have z16 := hB16.size
      have C16 := C15.trans (hB16.mono C15.size)
      have r16 := r15.below hB16 (by omega)
      have g16 := g15.below hB16 (by omega)
      have l16 := hA16.lt
      have a16 : Row w16 w15.heap.size w16.heap.size (some ⟨w15.heap.size, 0, none⟩) n zs := Row.of hA16 h.len (Nat.le_refl _) l16
      clear hA16
      go_wp2_with fail
      refine (toIntS_any A' n' c' vs w16 (h'.to C16 (Nat.le_refl _) C16.size) hs').mono ?_
      rintro e w17 ⟨rfl, hA17, hB17⟩
      have z17 := hB17.size
      have C17 := C16.trans (hB17.mono C16.size)
      have r17 := r16.below hB17 (by omega)
      have g17 := g16.below hB17 (by omega)
      have a17 := a16.below hB17 (by omega)
      have l17 := hA17.lt
      have b17 : Row w17 w16.heap.size w17.heap.size (some ⟨w16.heap.size, 0, none⟩) n' vs := Row.of hA17 h'.len (Nat.le_refl _) l17
      clear hA17
      go_wp2_with fail
      refine (MapOrder_any _ n _ zs _ n' _ vs w17 (a17.ints (by omega)) (b17.ints (by omega)) (by omega) (by omega)).mono ?_
      rw [Htb.out]
      rintro e w18 ⟨A18, n18, c18, rfl, q18, hB18⟩
      have z18 := hB18.size
      have C18 := C17.trans (hB18.mono C17.size)
      have r18 := r17.below hB18 (by omega)
      have g18 := g17.below hB18 (by omega)
      have a18 := a17.below hB18 (by omega)
      have b18 := b17.below hB18 (by omega)
      have hn18 : n18 ≤ 1048576 := by rw [← q18.len]; exact HR.out
      clear a18
      clear b18
      go_wp2_with fail
      refine (below_quiet (eqIntS_any _ _ _ _ _ _ w18.heap.size w18.heap.size _ _ _ (q18.ints (by omega)) (r18.ints (by omega)) (by omega) (by omega))).mono ?_
      rintro e w19 ⟨rfl, hB19⟩
      have z19 := hB19.size
      have C19 := C18.trans (hB19.mono C18.size)
      have r19 := r18.below hB19 (by omega)
      have g19 := g18.below hB19 (by omega)
      have q19 := q18.below hB19 (by omega)
      go_wp2_with fail
      refine (heldIntS_any _ _ _ w19.heap.size _ _ (g19.ints (by omega)) hn6 (by omega) (by omega)).mono ?_
      rintro e wx ⟨rfl, rfl⟩
      go_wp2_with fail
      go_ret
      exact ⟨rfl, C19⟩
    · go_enter Try.func4, Try.ntmps4
      go_wp2
      go_ret
      exact ⟨rfl, Below.refl _ _⟩
  · go_enter Try.func4, Try.ntmps4
    go_wp2
    go_ret
    exact ⟨rfl, Below.refl _ _⟩
theorem exactMapOrder_walk (A : Option Addr) (n c : Nat) (zs : List Int) (A' : Option Addr) (n' c' : Nat) (vs : List Int) (w : World) (h : Ints w w.heap.size A n zs) (h' : Ints w w.heap.size A' n' vs) :
    Calls Try.prog 4 #[.slice A n c, .slice A' n' c'] w fun e w' => e = .returned (.bool true) ∧ Below w.heap.size w w' :=
  exactMapOrder_walkR A n c zs A' n' c' vs w h h' (mapR_le zs vs)
end Go.Proofs.Ytghogabmkbadjaa
