/- PartOf's own law: parts are orders, of as many items as the set has; of all items it is the order; and of DualOf it is DualOf it. -/
import Derived.Test.YtogiooecjfnkcaaDrPartOf
import Derived.Test.YtogiooecjfnkcaaVOrd
import Derived.Test.YtogiooecjfnkcaaGa
import Derived.Test.YtogiooecjfnkcaaGb
import Derived.Test.YtogiooecjfnkcaaPtM
import Derived.Test.YtogiooecjfnkcaaPtP
import Derived.Test.YtogiooecjfnkcaaSize
import Derived.Test.YtogiooecjfnkcaaEqI
namespace Go.Proofs.Ytogiooecjfnkcaa
open Go.RowKit Go.Shelf

set_option maxRecDepth 100000 in
set_option maxHeartbeats 8000000 in
theorem fnPartOf_walk (A : Option Addr) (m c : Nat) (bs : List Int) (w : World) (h : Byts w w.heap.size A m bs) (hcap : m ≤ c) :
    Calls Try.prog 8 #[.slice A m c] w fun e w' => e = .returned (.bool true) ∧ Below w.heap.size w w' := by
  by_cases hs : m ≤ 1048576
  · go_enter Try.func8, Try.ntmps8
    go_wp2_with fail
    refine (drawPartOf_any A m c bs w h hcap (by omega)).mono ?_
    rintro e w1 ⟨A1, n, c1, zs, s, rfl, hn7, hI1, C1⟩
    have hlen := Lib.hid hI1.len
    by_cases hP0 : partR zs s = []
    · have HL := Lib.hid hP0
      clear hP0
      go_wp2_with fail
      refine (PartOf_any A1 n c1 zs s w1 hI1 (by omega)).mono ?_
      rintro e w2 ⟨A2, m2, c2, rfl, r2, hB2⟩
      have z2 := hB2.size
      have C2 := C1.trans (hB2.mono C1.size)
      have hI2 := hI1.to hB2 (Nat.le_refl _) z2
      have ha2 := r2.ints (B := w2.heap.size) (Nat.le_refl _)
      have e2 := r2.len
      clear hI1 hB2 C1 r2
      rw [HL.out] at ha2 e2
      simp only [List.length_nil] at e2
      subst e2
      go_wp2_with fail
      refine (specPartOfF_any A1 n c1 zs s w2 hI2 (by omega)).mono ?_
      rintro e w3 ⟨A3, m3, c3, rfl, r3, hB3⟩
      have z3 := hB3.size
      have C3 := C2.trans (hB3.mono C2.size)
      have hI3 := hI2.to hB3 (Nat.le_refl _) z3
      have ha3 := ha2.to hB3 (Nat.le_refl _) z3
      have hb3 := r3.ints (B := w3.heap.size) (Nat.le_refl _)
      have e3 := r3.len
      clear hI2 ha2 hB3 C2 r3
      rw [HL.out] at hb3 e3
      simp only [List.length_nil] at e3
      subst e3
      go_wp2_with fail
      refine (equalSame_any _ _ _ _ _ _ _ _ _ _ ha3 hb3 (by omega) (by omega)).mono ?_
      rintro e w4 ⟨rfl, hB4⟩
      have z4 := hB4.size
      have C4 := C3.trans (hB4.mono C3.size)
      have hI4 := hI3.to hB4 (Nat.le_refl _) z4
      have ha4 := ha3.to hB4 (Nat.le_refl _) z4
      have hb4 := hb3.to hB4 (Nat.le_refl _) z4
      clear hI3 ha3 hb3 hB4 C3
      go_wp2_with fail
      refine (specPartOfF_any A1 n c1 zs s w4 hI4 (by omega)).mono ?_
      rintro e w5 ⟨A5, m5, c5, rfl, r5, hB5⟩
      have z5 := hB5.size
      have C5 := C4.trans (hB5.mono C4.size)
      have hI5 := hI4.to hB5 (Nat.le_refl _) z5
      have ha5 := ha4.to hB5 (Nat.le_refl _) z5
      have hb5 := hb4.to hB5 (Nat.le_refl _) z5
      have hx5 := r5.ints (B := w5.heap.size) (Nat.le_refl _)
      have e5 := r5.len
      clear hI4 ha4 hb4 hB5 C4 r5
      rw [HL.out] at hx5 e5
      simp only [List.length_nil] at e5
      subst e5
      go_wp2_with fail
      refine (equalSame_any _ _ _ _ _ _ _ _ _ _ ha5 hx5 (by omega) (by omega)).mono ?_
      rintro e w6 ⟨rfl, hB6⟩
      have z6 := hB6.size
      have C6 := C5.trans (hB6.mono C5.size)
      have hI6 := hI5.to hB6 (Nat.le_refl _) z6
      have ha6 := ha5.to hB6 (Nat.le_refl _) z6
      have hb6 := hb5.to hB6 (Nat.le_refl _) z6
      have hx6 := hx5.to hB6 (Nat.le_refl _) z6
      clear hI5 ha5 hb5 hx5 hB6 C5
      go_wp2_with fail
      go_ret
      exact ⟨rfl, C6⟩
    · obtain ⟨hvo, hs0, hs1⟩ := set_parts (zs := zs) (s := s) (by
        cases e : (vo zs && inB s 0 (powI zs.length - 1))
        · exfalso; exact hP0 (by unfold partR; rw [e]; rfl)
        · rfl)
      have hn6 : n ≤ 6 := by have := hvo.1; rw [hlen.out] at this; exact this
      have hp64 := powI_le6 (n := (zs.length : Int)) (by have := hvo.1; omega)
      have HD := Lib.hid (show dualR zs = du zs by unfold dualR; rw [vo_true hvo]; rfl)
      have hPv := part_vo hvo hs0 hs1
      have HV := Lib.hid (vo_true hPv)
      have HDP := Lib.hid (show dualR (partR zs s) = du (partR zs s) by unfold dualR; rw [vo_true hPv]; rfl)
      have HPD := Lib.hid (part_du hvo hs0 hs1)
      have HW := Lib.hid (show partR zs (powI n - 1) = zs by have := part_whole hvo; rwa [hlen.out] at this)
      have hS := part_len hvo hs0 hs1
      have hC : decide (countR (partR zs s) ≤ countR zs) = true := decide_eq_true (part_pairs hvo hs0 hs1)
      have hl1 := partR_le zs s
      have hl2 := partR_le (du zs) s
      have hP1 : 0 < (partR zs s).length := List.length_pos_iff.2 hP0
      have hsz := fun w => lsize_any s w hs0 (by omega)
      have hla := fun w => lall_any n w hn6
      rw [HPD.out] at hl2
      generalize hP : partR zs s = P at *
      have HPe := Lib.hid hP
      clear hP hPv hP0
      generalize popI s = p at *
      obtain rfl := hS
      go_wp2_with fail
      refine (PartOf_any A1 n c1 zs s w1 hI1 (by omega)).mono ?_
      rintro e w2 ⟨A2, m2, c2, rfl, r2, hB2⟩
      have z2 := hB2.size
      have C2 := C1.trans (hB2.mono C1.size)
      have hI2 := hI1.to hB2 (Nat.le_refl _) z2
      have ha2 := r2.ints (B := w2.heap.size) (Nat.le_refl _)
      have e2 := r2.len
      clear hI1 hB2 C1 r2
      rw [HPe.out] at ha2 e2
      go_wp2_with fail
      refine (specPartOfF_any A1 n c1 zs s w2 hI2 (by omega)).mono ?_
      rintro e w3 ⟨A3, m3, c3, rfl, r3, hB3⟩
      have z3 := hB3.size
      have C3 := C2.trans (hB3.mono C2.size)
      have hI3 := hI2.to hB3 (Nat.le_refl _) z3
      have ha3 := ha2.to hB3 (Nat.le_refl _) z3
      have hb3 := r3.ints (B := w3.heap.size) (Nat.le_refl _)
      have e3 := r3.len
      clear hI2 ha2 hB3 C2 r3
      rw [HPe.out] at hb3 e3
      go_wp2_with fail
      refine (equalSame_any _ _ _ _ _ _ _ _ _ _ ha3 hb3 (by omega) (by omega)).mono ?_
      rintro e w4 ⟨rfl, hB4⟩
      have z4 := hB4.size
      have C4 := C3.trans (hB4.mono C3.size)
      have hI4 := hI3.to hB4 (Nat.le_refl _) z4
      have ha4 := ha3.to hB4 (Nat.le_refl _) z4
      have hb4 := hb3.to hB4 (Nat.le_refl _) z4
      clear hI3 ha3 hb3 hB4 C3
      have hnb : ((m2 : Int) == 0) = false := by simpa using (by omega : m2 ≠ 0)
      go_wp2_with fail
      refine (ValidOrder_any A2 m2 c2 P w4 ha4 (by omega)).mono ?_
      rw [HV.out]
      rintro e w5 ⟨rfl, hB5⟩
      have z5 := hB5.size
      have C5 := C4.trans (hB5.mono C4.size)
      have hI5 := hI4.to hB5 (Nat.le_refl _) z5
      have ha5 := ha4.to hB5 (Nat.le_refl _) z5
      have hb5 := hb4.to hB5 (Nat.le_refl _) z5
      clear hI4 ha4 hb4 hB5 C4
      go_wp2_with fail
      refine (hsz _).mono ?_
      rintro e wq ⟨rfl, rfl⟩
      have hse : ((m2 : Int) == (P.length : Int)) = true := by rw [e2]; simp
      go_wp2_with fail
      refine (hla _).mono ?_
      rintro e wq ⟨rfl, rfl⟩
      go_wp2_with fail
      refine (PartOf_any A1 n c1 zs (powI n - 1) w5 hI5 (by omega)).mono ?_
      rintro e w6 ⟨A6, m6, c6, rfl, r6, hB6⟩
      have z6 := hB6.size
      have C6 := C5.trans (hB6.mono C5.size)
      have hI6 := hI5.to hB6 (Nat.le_refl _) z6
      have ha6 := ha5.to hB6 (Nat.le_refl _) z6
      have hb6 := hb5.to hB6 (Nat.le_refl _) z6
      have hw6 := r6.ints (B := w6.heap.size) (Nat.le_refl _)
      have e6 := r6.len
      clear hI5 ha5 hb5 hB6 C5 r6
      rw [HW.out] at hw6 e6
      rw [hlen.out] at e6
      subst e6
      go_wp2_with fail
      refine (equalSame_any _ _ _ _ _ _ _ _ _ _ hw6 hI6 (by omega) (by omega)).mono ?_
      rintro e w7 ⟨rfl, hB7⟩
      have z7 := hB7.size
      have C7 := C6.trans (hB7.mono C6.size)
      have hI7 := hI6.to hB7 (Nat.le_refl _) z7
      have ha7 := ha6.to hB7 (Nat.le_refl _) z7
      have hb7 := hb6.to hB7 (Nat.le_refl _) z7
      have hw7 := hw6.to hB7 (Nat.le_refl _) z7
      clear hI6 ha6 hb6 hw6 hB7 C6
      go_wp2_with fail
      refine (DualOf_any A1 n c1 zs w7 hI7 (by omega)).mono ?_
      rintro e w8 ⟨A8, m8, c8, rfl, r8, hB8⟩
      have z8 := hB8.size
      have C8 := C7.trans (hB8.mono C7.size)
      have hI8 := hI7.to hB8 (Nat.le_refl _) z8
      have ha8 := ha7.to hB8 (Nat.le_refl _) z8
      have hb8 := hb7.to hB8 (Nat.le_refl _) z8
      have hw8 := hw7.to hB8 (Nat.le_refl _) z8
      have hd8 := r8.ints (B := w8.heap.size) (Nat.le_refl _)
      have e8 := r8.len
      clear hI7 ha7 hb7 hw7 hB8 C7 r8
      rw [HD.out] at hd8 e8
      rw [du_len, hlen.out] at e8
      subst e8
      go_wp2_with fail
      refine (PartOf_any A8 _ c8 (du zs) s w8 hd8 (by omega)).mono ?_
      rintro e w9 ⟨A9, m9, c9, rfl, r9, hB9⟩
      have z9 := hB9.size
      have C9 := C8.trans (hB9.mono C8.size)
      have hI9 := hI8.to hB9 (Nat.le_refl _) z9
      have ha9 := ha8.to hB9 (Nat.le_refl _) z9
      have hb9 := hb8.to hB9 (Nat.le_refl _) z9
      have hw9 := hw8.to hB9 (Nat.le_refl _) z9
      have hd9 := hd8.to hB9 (Nat.le_refl _) z9
      have hx9 := r9.ints (B := w9.heap.size) (Nat.le_refl _)
      have e9 := r9.len
      clear hI8 ha8 hb8 hw8 hd8 hB9 C8 r9
      rw [HPD.out] at hx9 e9
      go_wp2_with fail
      refine (DualOf_any A2 m2 c2 P w9 ha9 (by omega)).mono ?_
      rintro e w10 ⟨A10, m10, c10, rfl, r10, hB10⟩
      have z10 := hB10.size
      have C10 := C9.trans (hB10.mono C9.size)
      have hI10 := hI9.to hB10 (Nat.le_refl _) z10
      have ha10 := ha9.to hB10 (Nat.le_refl _) z10
      have hb10 := hb9.to hB10 (Nat.le_refl _) z10
      have hw10 := hw9.to hB10 (Nat.le_refl _) z10
      have hd10 := hd9.to hB10 (Nat.le_refl _) z10
      have hx10 := hx9.to hB10 (Nat.le_refl _) z10
      have hy10 := r10.ints (B := w10.heap.size) (Nat.le_refl _)
      have e10 := r10.len
      clear hI9 ha9 hb9 hw9 hd9 hx9 hB10 C9 r10
      rw [HDP.out] at hy10 e10
      have hdl := du_len P
      go_wp2_with fail
      refine (equalSame_any _ _ _ _ _ _ _ _ _ _ hx10 hy10 (by omega) (by omega)).mono ?_
      rintro e w11 ⟨rfl, hB11⟩
      have z11 := hB11.size
      have C11 := C10.trans (hB11.mono C10.size)
      have hI11 := hI10.to hB11 (Nat.le_refl _) z11
      have ha11 := ha10.to hB11 (Nat.le_refl _) z11
      have hb11 := hb10.to hB11 (Nat.le_refl _) z11
      have hw11 := hw10.to hB11 (Nat.le_refl _) z11
      have hd11 := hd10.to hB11 (Nat.le_refl _) z11
      have hx11 := hx10.to hB11 (Nat.le_refl _) z11
      have hy11 := hy10.to hB11 (Nat.le_refl _) z11
      clear hI10 ha10 hb10 hw10 hd10 hx10 hy10 hB11 C10
      go_wp2_with fail
      refine (CountPairs_any A2 m2 c2 P w11 ha11 (by omega)).mono ?_
      rintro e w12 ⟨rfl, hB12⟩
      have z12 := hB12.size
      have C12 := C11.trans (hB12.mono C11.size)
      have hI12 := hI11.to hB12 (Nat.le_refl _) z12
      have ha12 := ha11.to hB12 (Nat.le_refl _) z12
      have hb12 := hb11.to hB12 (Nat.le_refl _) z12
      have hw12 := hw11.to hB12 (Nat.le_refl _) z12
      have hd12 := hd11.to hB12 (Nat.le_refl _) z12
      have hx12 := hx11.to hB12 (Nat.le_refl _) z12
      have hy12 := hy11.to hB12 (Nat.le_refl _) z12
      clear hI11 ha11 hb11 hw11 hd11 hx11 hy11 hB12 C11
      go_wp2_with fail
      refine (CountPairs_any A1 n c1 zs w12 hI12 (by omega)).mono ?_
      rintro e w13 ⟨rfl, hB13⟩
      have z13 := hB13.size
      have C13 := C12.trans (hB13.mono C12.size)
      have hI13 := hI12.to hB13 (Nat.le_refl _) z13
      have ha13 := ha12.to hB13 (Nat.le_refl _) z13
      have hb13 := hb12.to hB13 (Nat.le_refl _) z13
      have hw13 := hw12.to hB13 (Nat.le_refl _) z13
      have hd13 := hd12.to hB13 (Nat.le_refl _) z13
      have hx13 := hx12.to hB13 (Nat.le_refl _) z13
      have hy13 := hy12.to hB13 (Nat.le_refl _) z13
      clear hI12 ha12 hb12 hw12 hd12 hx12 hy12 hB13 C12
      go_wp2_with fail
      go_ret
      exact ⟨rfl, C13⟩
  · go_enter Try.func8, Try.ntmps8
    go_wp2
    go_ret
    exact ⟨rfl, Below.refl _ _⟩
end Go.Proofs.Ytogiooecjfnkcaa
