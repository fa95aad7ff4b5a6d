/- UndoSums's own law: what is undone sums up again, if it is not too great. -/
import Derived.Test.YtopfeebibphdgaaDrUndoSums
import Derived.Test.YtopfeebibphdgaaGc
import Derived.Test.YtopfeebibphdgaaSbS
import Derived.Test.YtopfeebibphdgaaUsI
import Derived.Test.YtopfeebibphdgaaUsS
import Derived.Test.YtopfeebibphdgaaEqI
import Derived.Test.YtopfeebibphdgaaSize
namespace Go.Proofs.Ytopfeebibphdgaa
open Go.RowKit Go.Shelf

set_option maxRecDepth 100000 in
set_option maxHeartbeats 8000000 in
theorem fnUndoSums_walk (A : Option Addr) (m c : Nat) (bs : List Int) (w : World) (h : Byts w w.heap.size A m bs) (hcap : m ≤ c) :
    Calls Try.prog 12 #[.slice A m c] w fun e w' => e = .returned (.bool true) ∧ Below w.heap.size w w' := by
  by_cases hs : m ≤ 1048576
  · go_enter Try.func12, Try.ntmps12
    go_wp2_with fail
    refine (drawUndoSums_any A m c bs w h hcap (by omega)).mono ?_
    rintro e w1 ⟨A1, n, c1, zs, AV, nV, cV, vs, rfl, hn7, hn8, hI1, hV1, C1⟩
    have hlen := Lib.hid hI1.len
    have hlen2 := Lib.hid hV1.len
    by_cases hP0 : undoR zs vs = []
    · have HL := Lib.hid hP0
      clear hP0
      go_wp2_with fail
      refine (UndoSums_any A1 n c1 zs AV nV cV vs w1 hI1 hV1 (by omega) (by omega)).mono ?_
      rintro e w2 ⟨A2, m2, c2, rfl, r2, hB2⟩
      have z2 := hB2.size
      have C2 := C1.trans (hB2.mono C1.size)
      have hI2 := hI1.to hB2 (Nat.le_refl _) z2
      have hV2 := hV1.to hB2 (Nat.le_refl _) z2
      have ha2 := r2.ints (B := w2.heap.size) (Nat.le_refl _)
      have e2 := r2.len
      clear hI1 hV1 hB2 C1 r2
      rw [HL.out] at ha2 e2
      simp only [List.length_nil] at e2
      subst e2
      go_wp2_with fail
      refine (specUndoSumsF_any A1 n c1 zs AV nV cV vs w2 hI2 hV2 (by omega) (by omega)).mono ?_
      rintro e w3 ⟨A3, m3, c3, rfl, r3, hB3⟩
      have z3 := hB3.size
      have C3 := C2.trans (hB3.mono C2.size)
      have hI3 := hI2.to hB3 (Nat.le_refl _) z3
      have hV3 := hV2.to hB3 (Nat.le_refl _) z3
      have ha3 := ha2.to hB3 (Nat.le_refl _) z3
      have hb3 := r3.ints (B := w3.heap.size) (Nat.le_refl _)
      have e3 := r3.len
      clear hI2 hV2 ha2 hB3 C2 r3
      rw [HL.out] at hb3 e3
      simp only [List.length_nil] at e3
      subst e3
      go_wp2_with fail
      refine (equalSame_any _ _ _ _ _ _ _ _ _ _ ha3 hb3 (by omega) (by omega)).mono ?_
      rintro e w4 ⟨rfl, hB4⟩
      have z4 := hB4.size
      have C4 := C3.trans (hB4.mono C3.size)
      have hI4 := hI3.to hB4 (Nat.le_refl _) z4
      have hV4 := hV3.to hB4 (Nat.le_refl _) z4
      have ha4 := ha3.to hB4 (Nat.le_refl _) z4
      have hb4 := hb3.to hB4 (Nat.le_refl _) z4
      clear hI3 hV3 ha3 hb3 hB4 C3
      go_wp2_with fail
      refine (specUndoSumsF_any A1 n c1 zs AV nV cV vs w4 hI4 hV4 (by omega) (by omega)).mono ?_
      rintro e w5 ⟨A5, m5, c5, rfl, r5, hB5⟩
      have z5 := hB5.size
      have C5 := C4.trans (hB5.mono C4.size)
      have hI5 := hI4.to hB5 (Nat.le_refl _) z5
      have hV5 := hV4.to hB5 (Nat.le_refl _) z5
      have ha5 := ha4.to hB5 (Nat.le_refl _) z5
      have hb5 := hb4.to hB5 (Nat.le_refl _) z5
      have hx5 := r5.ints (B := w5.heap.size) (Nat.le_refl _)
      have e5 := r5.len
      clear hI4 hV4 ha4 hb4 hB5 C4 r5
      rw [HL.out] at hx5 e5
      simp only [List.length_nil] at e5
      subst e5
      go_wp2_with fail
      refine (equalSame_any _ _ _ _ _ _ _ _ _ _ ha5 hx5 (by omega) (by omega)).mono ?_
      rintro e w6 ⟨rfl, hB6⟩
      have z6 := hB6.size
      have C6 := C5.trans (hB6.mono C5.size)
      have hI6 := hI5.to hB6 (Nat.le_refl _) z6
      have hV6 := hV5.to hB6 (Nat.le_refl _) z6
      have ha6 := ha5.to hB6 (Nat.le_refl _) z6
      have hb6 := hb5.to hB6 (Nat.le_refl _) z6
      have hx6 := hx5.to hB6 (Nat.le_refl _) z6
      clear hI5 hV5 ha5 hb5 hx5 hB6 C5
      go_wp2_with fail
      go_ret
      exact ⟨rfl, C6⟩
    · obtain ⟨hvo, hl, hvb⟩ := valR_parts (zs := zs) (vs := vs) (by
        cases e : valR zs vs
        · exfalso; exact hP0 (by unfold undoR; rw [e]; rfl)
        · rfl)
      obtain rfl : nV = n := by have h1 := hlen.out; have h2 := hlen2.out; omega
      have hn6 : nV ≤ 6 := by have := hvo.1; rw [hlen.out] at this; exact this
      have HR := Lib.hid (show undoR zs vs = undoL zs vs by unfold undoR valR; rw [vo_true hvo, decide_eq_true hl, hvb]; rfl)
      have hSl : (undoL zs vs).length = nV := by rw [undoL_len, hlen.out]
      have hn0 : nV ≠ 0 := fun e => hP0 (by rw [HR.out]; exact List.eq_nil_of_length_eq_zero (by omega))
      have HT := Lib.hid (sums_undo hvo hl)
      have hnb : ((nV : Int) == 0) = false := by simpa using (show ¬ (nV : Int) = 0 by omega)
      have hnn : ((nV : Int) == (nV : Int)) = true := by simp
      clear hP0
      generalize hT : undoL zs vs = T at *
      have HTe := Lib.hid hT
      clear hT
      go_wp2_with fail
      refine (UndoSums_any A1 nV c1 zs AV nV cV vs w1 hI1 hV1 (by omega) (by omega)).mono ?_
      rintro e w2 ⟨A2, m2, c2, rfl, r2, hB2⟩
      have z2 := hB2.size
      have C2 := C1.trans (hB2.mono C1.size)
      have hI2 := hI1.to hB2 (Nat.le_refl _) z2
      have hV2 := hV1.to hB2 (Nat.le_refl _) z2
      have ha2 := r2.ints (B := w2.heap.size) (Nat.le_refl _)
      have e2 := r2.len
      clear hI1 hV1 hB2 C1 r2
      rw [HR.out] at ha2 e2
      rw [hSl] at e2
      subst e2
      go_wp2_with fail
      refine (specUndoSumsF_any A1 nV c1 zs AV nV cV vs w2 hI2 hV2 (by omega) (by omega)).mono ?_
      rintro e w3 ⟨A3, m3, c3, rfl, r3, hB3⟩
      have z3 := hB3.size
      have C3 := C2.trans (hB3.mono C2.size)
      have hI3 := hI2.to hB3 (Nat.le_refl _) z3
      have hV3 := hV2.to hB3 (Nat.le_refl _) z3
      have ha3 := ha2.to hB3 (Nat.le_refl _) z3
      have hb3 := r3.ints (B := w3.heap.size) (Nat.le_refl _)
      have e3 := r3.len
      clear hI2 hV2 ha2 hB3 C2 r3
      rw [HR.out] at hb3 e3
      rw [hSl] at e3
      subst e3
      go_wp2_with fail
      refine (equalSame_any _ _ _ _ _ _ _ _ _ _ ha3 hb3 (by omega) (by omega)).mono ?_
      rintro e w4 ⟨rfl, hB4⟩
      have z4 := hB4.size
      have C4 := C3.trans (hB4.mono C3.size)
      have hI4 := hI3.to hB4 (Nat.le_refl _) z4
      have hV4 := hV3.to hB4 (Nat.le_refl _) z4
      have ha4 := ha3.to hB4 (Nat.le_refl _) z4
      have hb4 := hb3.to hB4 (Nat.le_refl _) z4
      clear hI3 hV3 ha3 hb3 hB4 C3
      cases hv : valR zs T
      · have HB := Lib.hid (show sumsR zs T = [] by unfold sumsR; rw [hv]; rfl)
        clear hv
        go_wp2_with fail
        refine (SumsBelow_any A1 nV c1 zs A2 _ c2 T w4 hI4 ha4 (by omega) (by omega)).mono ?_
        rintro e w5 ⟨A5, m5, c5, rfl, r5, hB5⟩
        have z5 := hB5.size
        have C5 := C4.trans (hB5.mono C4.size)
        have hI5 := hI4.to hB5 (Nat.le_refl _) z5
        have hV5 := hV4.to hB5 (Nat.le_refl _) z5
        have ha5 := ha4.to hB5 (Nat.le_refl _) z5
        have hb5 := hb4.to hB5 (Nat.le_refl _) z5
        have hu5 := r5.ints (B := w5.heap.size) (Nat.le_refl _)
        have e5 := r5.len
        clear hI4 hV4 ha4 hb4 hB5 C4 r5
        rw [HB.out] at hu5 e5
        simp only [List.length_nil] at e5
        subst e5
        go_wp2_with fail
        go_ret
        exact ⟨rfl, C5⟩
      · have HB := Lib.hid (show sumsR zs T = vs by unfold sumsR; rw [hv]; exact HT.out)
        clear hv
        go_wp2_with fail
        refine (SumsBelow_any A1 nV c1 zs A2 _ c2 T w4 hI4 ha4 (by omega) (by omega)).mono ?_
        rintro e w5 ⟨A5, m5, c5, rfl, r5, hB5⟩
        have z5 := hB5.size
        have C5 := C4.trans (hB5.mono C4.size)
        have hI5 := hI4.to hB5 (Nat.le_refl _) z5
        have hV5 := hV4.to hB5 (Nat.le_refl _) z5
        have ha5 := ha4.to hB5 (Nat.le_refl _) z5
        have hb5 := hb4.to hB5 (Nat.le_refl _) z5
        have hu5 := r5.ints (B := w5.heap.size) (Nat.le_refl _)
        have e5 := r5.len
        clear hI4 hV4 ha4 hb4 hB5 C4 r5
        rw [HB.out] at hu5 e5
        rw [hlen2.out] at e5
        subst e5
        go_wp2_with fail
        refine (equalSame_any _ _ _ _ _ _ _ _ _ _ hu5 hV5 (by omega) (by omega)).mono ?_
        rintro e w6 ⟨rfl, hB6⟩
        have z6 := hB6.size
        have C6 := C5.trans (hB6.mono C5.size)
        have hI6 := hI5.to hB6 (Nat.le_refl _) z6
        have hV6 := hV5.to hB6 (Nat.le_refl _) z6
        have ha6 := ha5.to hB6 (Nat.le_refl _) z6
        have hb6 := hb5.to hB6 (Nat.le_refl _) z6
        have hu6 := hu5.to hB6 (Nat.le_refl _) z6
        clear hI5 hV5 ha5 hb5 hu5 hB6 C5
        go_wp2_with fail
        go_ret
        exact ⟨rfl, C6⟩
  · go_enter Try.func12, Try.ntmps12
    go_wp2
    go_ret
    exact ⟨rfl, Below.refl _ _⟩
end Go.Proofs.Ytopfeebibphdgaa
