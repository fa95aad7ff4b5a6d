/- MapOrder's own law: the list told makes one order the other, and both have the same first shape. -/
import Derived.Test.YtghogabmkbadjaaDrMapOrder
import Derived.Test.YtghogabmkbadjaaGxi
import Derived.Test.YtghogabmkbadjaaGxj
import Derived.Test.YtghogabmkbadjaaRnF
import Derived.Test.YtghogabmkbadjaaGxh
set_option linter.unusedVariables false
set_option linter.unusedSimpArgs false
namespace Go.Proofs.Ytghogabmkbadjaa
open Go.RowKit Go.Shelf

set_option maxRecDepth 100000 in
set_option maxHeartbeats 8000000 in
theorem fnMapOrder_walk (A : Option Addr) (m c : Nat) (bs : List Int) (w : World) (h : Byts w w.heap.size A m bs) (hcap : m ≤ c) :
    Calls Try.prog 9 #[.slice A m c] w fun e w' => e = .returned (.bool true) ∧ Below w.heap.size w w' := by
  by_cases hs : m ≤ 1048576
  · go_enter Try.func9, Try.ntmps9
    go_wp2_with fail
    refine (drawMapOrder_any A m c bs w h hcap (by omega)).mono ?_
    rintro e w1 ⟨A1, n, c1, zs, Ay, ny, cy, ys, rfl, hn7, hn72, hI1, hJ1, C1⟩
    have hlen := Lib.hid hI1.len
    have hlen2 := Lib.hid hJ1.len
    cases hm : mapB zs ys
    · have hq0 : mapR zs ys = [] := mapR_no hm
      have HL := Lib.hid hq0
      have HM := Lib.hid hm
      clear hm hq0
      have hdd : decide (([] : List Int) = []) = true := rfl
      go_wp2_with fail
      refine (MapOrder_any A1 n c1 zs Ay ny cy ys w1 hI1 hJ1 (by omega) (by omega)).mono ?_
      rintro e w2 ⟨A2, m2, c2, he2, r2, hB2⟩
      rw [HM.out] at he2
      subst he2
      have z2 := hB2.size
      have C2 := C1.trans (hB2.mono C1.size)
      have hI2 := hI1.to hB2 (Nat.le_refl _) z2
      have hJ2 := hJ1.to hB2 (Nat.le_refl _) z2
      have ha2 := r2.ints (B := w2.heap.size) (Nat.le_refl _)
      have e2 := r2.len
      clear hI1 hJ1 hB2 C1 r2
      rw [HL.out] at ha2 e2
      simp only [List.length_nil] at e2
      subst e2
      go_wp2_with fail
      refine (specMapOrderF_any A1 n c1 zs Ay ny cy ys w2 hI2 hJ2 (by omega) (by omega)).mono ?_
      rintro e w3 ⟨A3, m3, c3, he3, r3, hB3⟩
      rw [HM.out] at he3
      subst he3
      have z3 := hB3.size
      have C3 := C2.trans (hB3.mono C2.size)
      have hI3 := hI2.to hB3 (Nat.le_refl _) z3
      have hJ3 := hJ2.to hB3 (Nat.le_refl _) z3
      have ha3 := ha2.to hB3 (Nat.le_refl _) z3
      have hb3 := r3.ints (B := w3.heap.size) (Nat.le_refl _)
      have e3 := r3.len
      clear hI2 hJ2 ha2 hB3 C2 r3
      rw [HL.out] at hb3 e3
      simp only [List.length_nil] at e3
      subst e3
      go_wp2_with fail
      refine (below_quiet (equalInts_any _ _ _ _ _ _ w3.heap.size w3.heap.size _ _ _ ha3 hb3 (by omega) (by omega))).mono ?_
      rintro e w4 ⟨rfl, hB4⟩
      have z4 := hB4.size
      have C4 := C3.trans (hB4.mono C3.size)
      have hI4 := hI3.to hB4 (Nat.le_refl _) z4
      have hJ4 := hJ3.to hB4 (Nat.le_refl _) z4
      have ha4 := ha3.to hB4 (Nat.le_refl _) z4
      have hb4 := hb3.to hB4 (Nat.le_refl _) z4
      clear hI3 hJ3 ha3 hb3 hB4 C3
      go_wp2_with fail
      refine (below_quiet (equalInts_any _ _ _ _ _ _ w4.heap.size w4.heap.size _ _ _ ha4 hb4 (by omega) (by omega))).mono ?_
      rintro e w5 ⟨rfl, hB5⟩
      have z5 := hB5.size
      have C5 := C4.trans (hB5.mono C4.size)
      have hI5 := hI4.to hB5 (Nat.le_refl _) z5
      have hJ5 := hJ4.to hB5 (Nat.le_refl _) z5
      have ha5 := ha4.to hB5 (Nat.le_refl _) z5
      have hb5 := hb4.to hB5 (Nat.le_refl _) z5
      clear hI4 hJ4 ha4 hb4 hB5 C4
      go_wp2_with fail
      go_ret
      exact ⟨rfl, C5⟩
    · obtain ⟨hok, hre, hcan, hn5⟩ := map_facts hm
      rw [hlen.out] at hn5
      have hml : (mapR zs ys).length = n := by
        have h1 := hok
        unfold rnOk at h1
        rw [Bool.and_eq_true] at h1
        have h2 := (zr_steps h1.2).1
        rw [h2, hlen.out]
      have HM := Lib.hid hm
      have HK := Lib.hid hok
      have HR := Lib.hid hre
      have HC := Lib.hid hcan
      have HQ := Lib.hid hml
      clear hm hok hre hcan hml
      obtain ⟨q, hq⟩ : ∃ q, mapR zs ys = q := ⟨_, rfl⟩
      rw [hq] at HK HR HQ
      have HL := Lib.hid hq
      clear hq
      have hdd : ∀ l : List Int, decide (l = l) = true := fun l => by simp
      go_wp2_with fail
      refine (MapOrder_any A1 n c1 zs Ay ny cy ys w1 hI1 hJ1 (by omega) (by omega)).mono ?_
      rintro e w2 ⟨A2, m2, c2, he2, r2, hB2⟩
      rw [HM.out] at he2
      subst he2
      have z2 := hB2.size
      have C2 := C1.trans (hB2.mono C1.size)
      have hI2 := hI1.to hB2 (Nat.le_refl _) z2
      have hJ2 := hJ1.to hB2 (Nat.le_refl _) z2
      have ha2 := r2.ints (B := w2.heap.size) (Nat.le_refl _)
      have e2 := r2.len
      clear hI1 hJ1 hB2 C1 r2
      rw [HL.out] at ha2 e2
      rw [HQ.out] at e2
      subst e2
      go_wp2_with fail
      refine (specMapOrderF_any A1 n c1 zs Ay ny cy ys w2 hI2 hJ2 (by omega) (by omega)).mono ?_
      rintro e w3 ⟨A3, m3, c3, he3, r3, hB3⟩
      rw [HM.out] at he3
      subst he3
      have z3 := hB3.size
      have C3 := C2.trans (hB3.mono C2.size)
      have hI3 := hI2.to hB3 (Nat.le_refl _) z3
      have hJ3 := hJ2.to hB3 (Nat.le_refl _) z3
      have ha3 := ha2.to hB3 (Nat.le_refl _) z3
      have hb3 := r3.ints (B := w3.heap.size) (Nat.le_refl _)
      have e3 := r3.len
      clear hI2 hJ2 ha2 hB3 C2 r3
      rw [HL.out] at hb3 e3
      rw [HQ.out] at e3
      subst e3
      have hd1 := hdd q
      go_wp2_with fail
      refine (below_quiet (equalInts_any _ _ _ _ _ _ w3.heap.size w3.heap.size _ _ _ ha3 hb3 (by omega) (by omega))).mono ?_
      rintro e w4 ⟨rfl, hB4⟩
      have z4 := hB4.size
      have C4 := C3.trans (hB4.mono C3.size)
      have hI4 := hI3.to hB4 (Nat.le_refl _) z4
      have hJ4 := hJ3.to hB4 (Nat.le_refl _) z4
      have ha4 := ha3.to hB4 (Nat.le_refl _) z4
      have hb4 := hb3.to hB4 (Nat.le_refl _) z4
      clear hI3 hJ3 ha3 hb3 hB4 C3
      go_wp2_with fail
      refine (Renumbered_any A1 n c1 zs A2 _ c2 q w4 hI4 ha4 (by omega) (by omega)).mono ?_
      rintro e w5 ⟨A5, m5, c5, he5, r5, hB5⟩
      rw [HK.out] at he5
      subst he5
      have z5 := hB5.size
      have C5 := C4.trans (hB5.mono C4.size)
      have hI5 := hI4.to hB5 (Nat.le_refl _) z5
      have hJ5 := hJ4.to hB5 (Nat.le_refl _) z5
      have ha5 := ha4.to hB5 (Nat.le_refl _) z5
      have hb5 := hb4.to hB5 (Nat.le_refl _) z5
      have hr5 := r5.ints (B := w5.heap.size) (Nat.le_refl _)
      have e5 := r5.len
      clear hI4 hJ4 ha4 hb4 hB5 C4 r5
      rw [HR.out] at hr5 e5
      rw [hlen2.out] at e5
      subst e5
      have hd2 := hdd ys
      go_wp2_with fail
      refine (below_quiet (equalInts_any _ _ _ _ _ _ w5.heap.size w5.heap.size _ _ _ hr5 hJ5 (by omega) (by omega))).mono ?_
      rintro e w6 ⟨rfl, hB6⟩
      have z6 := hB6.size
      have C6 := C5.trans (hB6.mono C5.size)
      have hI6 := hI5.to hB6 (Nat.le_refl _) z6
      have hJ6 := hJ5.to hB6 (Nat.le_refl _) z6
      have ha6 := ha5.to hB6 (Nat.le_refl _) z6
      have hb6 := hb5.to hB6 (Nat.le_refl _) z6
      have hr6 := hr5.to hB6 (Nat.le_refl _) z6
      clear hI5 hJ5 ha5 hb5 hr5 hB6 C5
      have hcl : (canR zs).length ≤ 5 := by have := canR_len5 zs; omega
      go_wp2_with fail
      refine (CanonOf_any A1 n c1 zs w6 hI6 (by omega)).mono ?_
      rintro e w7 ⟨A7, m7, c7, rfl, r7, hB7⟩
      have z7 := hB7.size
      have C7 := C6.trans (hB7.mono C6.size)
      have hI7 := hI6.to hB7 (Nat.le_refl _) z7
      have hJ7 := hJ6.to hB7 (Nat.le_refl _) z7
      have ha7 := ha6.to hB7 (Nat.le_refl _) z7
      have hb7 := hb6.to hB7 (Nat.le_refl _) z7
      have hr7 := hr6.to hB7 (Nat.le_refl _) z7
      have hx7 := r7.ints (B := w7.heap.size) (Nat.le_refl _)
      have e7 := r7.len
      clear hI6 hJ6 ha6 hb6 hr6 hB7 C6 r7
      go_wp2_with fail
      refine (CanonOf_any Ay ny cy ys w7 hJ7 (by omega)).mono ?_
      rintro e w8 ⟨A8, m8, c8, rfl, r8, hB8⟩
      have z8 := hB8.size
      have C8 := C7.trans (hB8.mono C7.size)
      have hI8 := hI7.to hB8 (Nat.le_refl _) z8
      have hJ8 := hJ7.to hB8 (Nat.le_refl _) z8
      have ha8 := ha7.to hB8 (Nat.le_refl _) z8
      have hb8 := hb7.to hB8 (Nat.le_refl _) z8
      have hr8 := hr7.to hB8 (Nat.le_refl _) z8
      have hx8 := hx7.to hB8 (Nat.le_refl _) z8
      have hy8 := r8.ints (B := w8.heap.size) (Nat.le_refl _)
      have e8 := r8.len
      clear hI7 hJ7 ha7 hb7 hr7 hx7 hB8 C7 r8
      rw [HC.out] at hy8 e8
      have hd3 := hdd (canR zs)
      go_wp2_with fail
      refine (below_quiet (equalInts_any _ _ _ _ _ _ w8.heap.size w8.heap.size _ _ _ hx8 hy8 (by omega) (by omega))).mono ?_
      rintro e w9 ⟨rfl, hB9⟩
      have z9 := hB9.size
      have C9 := C8.trans (hB9.mono C8.size)
      have hI9 := hI8.to hB9 (Nat.le_refl _) z9
      have hJ9 := hJ8.to hB9 (Nat.le_refl _) z9
      have ha9 := ha8.to hB9 (Nat.le_refl _) z9
      have hb9 := hb8.to hB9 (Nat.le_refl _) z9
      have hr9 := hr8.to hB9 (Nat.le_refl _) z9
      have hx9 := hx8.to hB9 (Nat.le_refl _) z9
      have hy9 := hy8.to hB9 (Nat.le_refl _) z9
      clear hI8 hJ8 ha8 hb8 hr8 hx8 hy8 hB9 C8
      go_wp2_with fail
      go_ret
      exact ⟨rfl, C9⟩
  · go_enter Try.func9, Try.ntmps9
    go_wp2
    go_ret
    exact ⟨rfl, Below.refl _ _⟩
end Go.Proofs.Ytghogabmkbadjaa
