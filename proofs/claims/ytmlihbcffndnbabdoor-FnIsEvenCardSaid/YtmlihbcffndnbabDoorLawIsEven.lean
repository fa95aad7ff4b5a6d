/- IsEven's own law: an even lattice is a lattice, turned round it is even, and the ideals of its singles are as many as its items. -/
import Derived.Test.YtmlihbcffndnbabDoorGxd
import Derived.Test.YtmlihbcffndnbabDoorGxh
import Derived.Test.YtmlihbcffndnbabDoorGxe
import Derived.Test.YtmlihbcffndnbabDoorGxi
import Derived.Test.YtmlihbcffndnbabDoorGc
import Derived.Test.YtmlihbcffndnbabDoorGa
import Derived.Test.YtmlihbcffndnbabDoorGxc
set_option linter.unusedVariables false
set_option linter.unusedSimpArgs false
namespace Go.Proofs.YtmlihbcffndnbabDoor
open Go.RowKit Go.Shelf

set_option maxRecDepth 100000 in
set_option maxHeartbeats 8000000 in
theorem fnIsEven_walk (A : Option Addr) (m c : Nat) (bs : List Int) (w : World) (h : Byts w w.heap.size A m bs) (hcap : m ≤ c) (hE : Et w) (hT : Tab w) (hw1 : 2 < w.heap.size) :
    Calls Tryd.prog 10 #[.slice A m c] w fun e w' => e = .returned (.bool true) ∧ Below w.heap.size w w' := by
  by_cases hs : m ≤ 1048576
  · go_enter Tryd.func10, Tryd.ntmps10
    go_wp2_with fail
    refine (drawIsEven_any A m c bs w h hcap (by omega)).mono ?_
    rintro e w1 ⟨A1, n, c1, zs, rfl, hn7, hI1, C1⟩
    have hlen := Lib.hid hI1.len
    cases hv : evenR zs
    · have HL := Lib.hid hv
      clear hv
      go_wp2_with fail
      refine (IsEven_any A1 n c1 zs w1 hI1 (by omega) (hE.below C1 hE.2)).mono ?_
      rw [HL.out]
      rintro e w2 ⟨rfl, hB2⟩
      have z2 := hB2.size
      have C2 := C1.trans (hB2.mono C1.size)
      have hI2 := hI1.to hB2 (Nat.le_refl _) z2
      clear hI1 hB2 C1
      go_wp2_with fail
      refine (specIsEvenF_any A1 n c1 zs w2 hI2 (by omega)).mono ?_
      rw [HL.out]
      rintro e w3 ⟨rfl, hB3⟩
      have z3 := hB3.size
      have C3 := C2.trans (hB3.mono C2.size)
      have hI3 := hI2.to hB3 (Nat.le_refl _) z3
      clear hI2 hB3 C2
      go_wp2_with fail
      refine (specIsEvenF_any A1 n c1 zs w3 hI3 (by omega)).mono ?_
      rw [HL.out]
      rintro e w4 ⟨rfl, hB4⟩
      have z4 := hB4.size
      have C4 := C3.trans (hB4.mono C3.size)
      have hI4 := hI3.to hB4 (Nat.le_refl _) z4
      clear hI3 hB4 C3
      go_wp2_with fail
      go_ret
      exact ⟨rfl, C4⟩
    · obtain ⟨hlr, hev⟩ : latR zs = true ∧ EvenAll zs := by unfold evenR at hv; rw [Bool.and_eq_true, decide_eq_true_eq] at hv; exact hv
      obtain ⟨hvo, hlb⟩ : VoP zs ∧ latB zs = true := by unfold latR at hlr; rw [Bool.and_eq_true] at hlr; exact ⟨by simpa [vo] using hlr.1, hlr.2⟩
      have HL := Lib.hid hv
      have HLt := Lib.hid hlr
      clear hv hlr
      have hn6 : n ≤ 6 := by have := hvo.1; rw [hlen.out] at this; exact this
      have HD := Lib.hid (show dualR zs = du zs by unfold dualR; rw [vo_true hvo]; rfl)
      have HV := Lib.hid (show evenR (du zs) = true by unfold evenR; rw [lat_du hvo hlb, decide_eq_true (even_du hvo hlb hev)]; rfl)
      have HS := Lib.hid (show singlesR zs = snTo zs zs.length by unfold singlesR; rw [vo_true hvo]; rfl)
      have HI := Lib.hid (show countIdealsR (partR zs (snTo zs zs.length)) = (n : Int) by rw [even_ideals hvo hlb hev, hlen.out])
      have hpl := partR_le zs (snTo zs zs.length)
      go_wp2_with fail
      refine (IsEven_any A1 n c1 zs w1 hI1 (by omega) (hE.below C1 hE.2)).mono ?_
      rw [HL.out]
      rintro e w2 ⟨rfl, hB2⟩
      have z2 := hB2.size
      have C2 := C1.trans (hB2.mono C1.size)
      have hI2 := hI1.to hB2 (Nat.le_refl _) z2
      clear hI1 hB2 C1
      go_wp2_with fail
      refine (specIsEvenF_any A1 n c1 zs w2 hI2 (by omega)).mono ?_
      rw [HL.out]
      rintro e w3 ⟨rfl, hB3⟩
      have z3 := hB3.size
      have C3 := C2.trans (hB3.mono C2.size)
      have hI3 := hI2.to hB3 (Nat.le_refl _) z3
      clear hI2 hB3 C2
      go_wp2_with fail
      refine (IsLattice_any A1 n c1 zs w3 hI3 (by omega) (hE.below C3 hE.2)).mono ?_
      rw [HLt.out]
      rintro e w4 ⟨rfl, hB4⟩
      have z4 := hB4.size
      have C4 := C3.trans (hB4.mono C3.size)
      have hI4 := hI3.to hB4 (Nat.le_refl _) z4
      clear hI3 hB4 C3
      go_wp2_with fail
      refine (DualOf_any A1 n c1 zs w4 hI4 (by omega)).mono ?_
      rintro e w5 ⟨A5, m5, c5, rfl, r5, hB5⟩
      have z5 := hB5.size
      have C5 := C4.trans (hB5.mono C4.size)
      have hI5 := hI4.to hB5 (Nat.le_refl _) z5
      have hd5 := r5.ints (B := w5.heap.size) (Nat.le_refl _)
      have e5 := r5.len
      clear hI4 hB5 C4 r5
      rw [HD.out] at hd5 e5
      rw [du_len, hlen.out] at e5
      subst e5
      go_wp2_with fail
      refine (IsEven_any A5 _ c5 (du zs) w5 hd5 (by omega) (hE.below C5 hE.2)).mono ?_
      rw [HV.out]
      rintro e w6 ⟨rfl, hB6⟩
      have z6 := hB6.size
      have C6 := C5.trans (hB6.mono C5.size)
      have hI6 := hI5.to hB6 (Nat.le_refl _) z6
      have hd6 := hd5.to hB6 (Nat.le_refl _) z6
      clear hI5 hd5 hB6 C5
      go_wp2_with fail
      refine (SinglesOf_any A1 _ c1 zs w6 hI6 (by omega)).mono ?_
      rw [HS.out]
      rintro e w7 ⟨rfl, hB7⟩
      have z7 := hB7.size
      have C7 := C6.trans (hB7.mono C6.size)
      have hI7 := hI6.to hB7 (Nat.le_refl _) z7
      have hd7 := hd6.to hB7 (Nat.le_refl _) z7
      clear hI6 hd6 hB7 C6
      go_wp2_with fail
      refine (PartOf_any A1 _ c1 zs (snTo zs zs.length) w7 hI7 (by omega)).mono ?_
      rintro e w8 ⟨A8, m8, c8, rfl, r8, hB8⟩
      have z8 := hB8.size
      have C8 := C7.trans (hB8.mono C7.size)
      have hI8 := hI7.to hB8 (Nat.le_refl _) z8
      have hd8 := hd7.to hB8 (Nat.le_refl _) z8
      have hp8 := r8.ints (B := w8.heap.size) (Nat.le_refl _)
      have e8 := r8.len
      clear hI7 hd7 hB8 C7 r8
      go_wp2_with fail
      refine (CountIdeals_any A8 m8 c8 _ w8 hp8 (by omega) (hT.below C8 hw1) (Nat.lt_of_lt_of_le hw1 C8.size)).mono ?_
      rw [HI.out]
      rintro e w9 ⟨rfl, hB9⟩
      have z9 := hB9.size
      have C9 := C8.trans (hB9.mono C8.size)
      have hI9 := hI8.to hB9 (Nat.le_refl _) z9
      have hd9 := hd8.to hB9 (Nat.le_refl _) z9
      have hp9 := hp8.to hB9 (Nat.le_refl _) z9
      clear hI8 hd8 hp8 hB9 C8
      go_wp2_with fail
      go_ret
      exact ⟨rfl, C9⟩
  · go_enter Tryd.func10, Tryd.ntmps10
    go_wp2
    go_ret
    exact ⟨rfl, Below.refl _ _⟩
end Go.Proofs.YtmlihbcffndnbabDoor
